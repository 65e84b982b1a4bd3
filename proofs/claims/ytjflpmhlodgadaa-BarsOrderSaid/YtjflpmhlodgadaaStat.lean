/-
  A store in a variable, kept from call to call; a copy with one more piece.
-/
import Derived.Test.YtjflpmhlodgadaaCopy
import Derived.Test.YtjflpmhlodgadaaTrue1
import Derived.Test.YtjflpmhlodgadaaAsks
namespace Go.Proofs.Ytjflpmhlodgadaa
open Go.RowKit

/-- In world W, block b is a store's variable; what was there when the call began is as it was. -/
structure Stat (w W : World) (b : Nat) (v0 v1 v2 v3 : Value) (S : Store) : Prop where
  blk : W.heap[b]? = some (.cells #[v0, v1, v2, v3] 25)
  st : StoreAt W.heap.size W (.agg #[v0, v1, v2, v3]) S
  b : Below w.heap.size w W
theorem Stat.next {w W W' : World} {b : Nat} {v0 v1 v2 v3 : Value} {S : Store} (h : Stat w W b v0 v1 v2 v3 S) (hb : Below W.heap.size W W') : Stat w W' b v0 v1 v2 v3 S :=
  ⟨(hb.block b (Array.getElem?_eq_some_iff.1 h.blk).1).trans h.blk, (h.st.below hb).mono hb.size, h.b.trans (hb.mono h.b.size)⟩
theorem Stat.lt {w W : World} {b : Nat} {v0 v1 v2 v3 : Value} {S : Store} (h : Stat w W b v0 v1 v2 v3 S) : b < W.heap.size := (Array.getElem?_eq_some_iff.1 h.blk).1
/-- The box of a parameter. -/
theorem Stat.first {w : World} {v0 v1 v2 v3 : Value} {S : Store} (h : StoreAt w.heap.size w (.agg #[v0, v1, v2, v3]) S) : Stat w (w.alloc (.cells #[v0, v1, v2, v3] 25)) w.heap.size v0 v1 v2 v3 S :=
  ⟨heap_new w _, (h.below ((Below.refl _ w).alloc (Nat.le_refl _) _)).mono (by simp), (Below.refl _ w).alloc (Nat.le_refl _) _⟩
theorem Stat.alloc {w W : World} {b : Nat} {v0 v1 v2 v3 : Value} {S : Store} (h : Stat w W b v0 v1 v2 v3 S) (o : Obj) : Stat w (W.alloc o) b v0 v1 v2 v3 S :=
  h.next ((Below.refl _ W).alloc (Nat.le_refl _) o)
/-- Behind writes that spare the blocks below lo, where all that the store is made of lies. -/
theorem readyB_few {S : Store} (h : readyB S = true) : Valid S ∧ Few S ∧ S.bars.length ≤ 4 ∧ S.pieces.length ≤ 5 := by
  simp only [readyB, Bool.and_eq_true, Bool.not_eq_true'] at h
  obtain ⟨h1, h2⟩ := h
  have hV := valid_iff.1 h2
  simp only [farB, h2, Bool.true_and, Bool.or_eq_false_iff, decide_eq_false_iff_not, Bool.not_eq_false'] at h1
  obtain ⟨_, _, h5, h6, h7⟩ := h1
  have hf := allTo_iff.1 h5
  exact ⟨hV, ⟨by omega, by omega, fun i hi => by simpa using hf i hi⟩, by omega, by omega⟩
theorem isKnown_to {e : Int} (h : e = 0 ∨ e = 3) (w : World) : Calls Try.prog 34 #[.int .i64 e] w fun r w' => r = .returned (.bool true) ∧ Below w.heap.size w w' :=
  (isKnown_any e w).mono fun r w' ⟨h1, h2⟩ => ⟨by rw [h1]; rcases h with rfl | rfl <;> rfl, by rw [h2]; exact Below.refl _ _⟩
theorem isKnown_same {e : Int} (h : e = 0 ∨ e = 3) (w : World) : Calls Try.prog 34 #[.int .i64 e] w fun r w' => r = .returned (.bool true) ∧ w = w' :=
  (isKnown_any e w).mono fun r w' ⟨h1, h2⟩ => ⟨by rw [h1]; rcases h with rfl | rfl <;> rfl, h2.symm⟩
theorem errN_cases (n : Nat) : errN n = 0 ∨ errN n = 3 := by unfold errN; split <;> simp

theorem own_ne_type {w : World} {base : Nat} {e t : TypeId} {size : Nat} {v : Value} {n b : Nat} {xs : List Value} {cs : Array Value} (h : w.ownsRow base e size v n xs) (hb : w.heap[b]? = some (.cells cs t)) (hne : e ≠ t) : v.ownBlock ≠ some b := by
  rcases h.2 with ⟨rfl, _⟩ | ⟨g, cap, cur, rfl, _, hh, _⟩
  · simp [Value.ownBlock]
  · intro he
    have : g = b := by simpa [Value.ownBlock] using he
    subst this
    rw [hb] at hh
    injection hh with hh
    injection hh with _ ht
    exact hne ht.symm
/-- A store into a store's variable spares its rows. -/
theorem CopyAt.setBox {lo : Nat} {w : World} {v u : Value} {S : Store} {b o : Nat} {cs : Array Value} (h : CopyAt lo w v S) (hb : w.heap[b]? = some (.cells cs 25)) : CopyAt lo (w.setCell ⟨b, o, none⟩ u) v S := by
  obtain ⟨bv, pv, hs, rfl, h1, h2, h3, h4⟩ := h
  have hk : ∀ {e : TypeId} {v : Value} {n size : Nat} {xs : List Value}, e ≠ 25 → w.ownsRow lo e size v n xs → (w.setCell ⟨b, o, none⟩ u).ownsRow lo e size v n xs := fun hne h =>
    h.kept (row := some b) ⟨rfl, rfl, rfl, by simp [World.setCell], fun k _ hk => Below.heap_setCell _ _ _ _ (fun e => hk (by rw [e]))⟩ (.inr (own_ne_type h hb hne))
  exact ⟨bv, pv, hs, rfl, hk (by decide) h1, hk (by decide) h2, fun i hi => hk (by decide) (h3 i hi), h4⟩

/-- The pieces' cells of a store with one more piece. -/
theorem pcells_more {ps : List Piece} {p : Piece} {hs : Nat → Value} {hv : Value} :
    pcells (ps ++ [p]) (fun i => if i = ps.length then hv else hs i) (ps.length + 1) = pcells ps hs ps.length ++ [.int .i64 p.long, hv] := by
  have h : ∀ {k : Nat}, k ≤ ps.length → pcells (ps ++ [p]) (fun i => if i = ps.length then hv else hs i) k = pcells ps hs k := fun {k} => by
    induction k with
    | zero => intro _; rfl
    | succ k ih =>
      intro hk
      simp only [pcells]
      rw [ih (by omega), pnth_append_left (by omega), if_neg (by omega)]
  simp only [pcells]
  rw [h (Nat.le_refl _), pnth_append_right]
  simp
end Go.Proofs.Ytjflpmhlodgadaa
