/-
  Two copies of a store in one statement, whichever comes first (a region that draws its order).
-/
import Derived.Test.YtjflpmhlodgadaaAnyInv
import Derived.BigQuiet
namespace Go.Proofs.Ytjflpmhlodgadaa
open Go.RowKit

theorem store4 (w : World) (b n1 n2 c1 c2 : Nat) (a1 a2 : Option Addr) (k r : Int) (z0 z1 z2 z3 : Value) (h : w.heap[b]? = some (.cells #[z0,z1,z2,z3] 25)) : (Instr.storeAt 25 (.pointer (some ⟨b,0,none⟩)) (.agg #[.slice a1 n1 c1, .int .i64 k, .slice a2 n2 c2, .int .i64 r])).run Try.prog w = .ok () ((((w.setCell ⟨b,0,none⟩ (.slice a1 n1 c1)).setCell ⟨b,1,none⟩ (.int .i64 k)).setCell ⟨b,2,none⟩ (.slice a2 n2 c2)).setCell ⟨b,3,none⟩ (.int .i64 r)) := by
  obtain ⟨⟨c0, c1, c2, c3⟩, f⟩ := box4f_of h
  have f0 := f 0
  have f1 := f 1
  have f2 := f 2
  have f3 := f 3
  clear f
  go_simp
theorem load4 (w : World) (b : Nat) (v0 v1 v2 v3 : Value) (h : w.heap[b]? = some (.cells #[v0,v1,v2,v3] 25)) : (Instr.loadAt 25 (.pointer (some ⟨b,0,none⟩))).run Try.prog w = .ok (.agg #[v0,v1,v2,v3]) w := by
  obtain ⟨c0, c1, c2, c3⟩ := box4_of h
  go_simp
theorem alloc4 (w : World) : (Instr.alloc 25 true (.tuple #[])).run Try.prog w = .ok (.pointer (some ⟨w.heap.size, 0, none⟩)) (w.alloc (.cells #[.slice none 0 0, .int .i64 0, .slice none 0 0, .int .i64 0] 25)) := by
  go_simp
/-- Block b with the four cells of a store, set one by one. -/
def put4 (w : World) (b : Nat) (v0 v1 v2 v3 : Value) : World := (((w.setCell ⟨b,0,none⟩ v0).setCell ⟨b,1,none⟩ v1).setCell ⟨b,2,none⟩ v2).setCell ⟨b,3,none⟩ v3
theorem put4_heap {w : World} {b : Nat} {v0 v1 v2 v3 z0 z1 z2 z3 : Value} (h : w.heap[b]? = some (.cells #[z0,z1,z2,z3] 25)) : (put4 w b v0 v1 v2 v3).heap[b]? = some (.cells #[v0,v1,v2,v3] 25) :=
  heap_set v3 (heap_set v2 (heap_set v1 (heap_set v0 h)))
theorem put4_other {w : World} {b b' : Nat} {v0 v1 v2 v3 : Value} {o : Obj} (h : w.heap[b']? = some o) (hn : b' ≠ b) : (put4 w b v0 v1 v2 v3).heap[b']? = some o :=
  heap_set_other _ (heap_set_other _ (heap_set_other _ (heap_set_other _ h hn) hn) hn) hn
theorem put4_below {w W : World} {b : Nat} {v0 v1 v2 v3 : Value} (h : Below w.heap.size w W) (hb : w.heap.size ≤ b) : Below w.heap.size w (put4 W b v0 v1 v2 v3) :=
  (((h.setCell hb _).setCell hb _).setCell hb _).setCell hb _
theorem CopyAt.put4 {lo : Nat} {w : World} {v v0 v1 v2 v3 z0 z1 z2 z3 : Value} {S : Store} {b : Nat} (h : CopyAt lo w v S) (hb : w.heap[b]? = some (.cells #[z0,z1,z2,z3] 25)) : CopyAt lo (put4 w b v0 v1 v2 v3) v S :=
  (((h.setBox hb).setBox (heap_set v0 hb)).setBox (heap_set v1 (heap_set v0 hb))).setBox (heap_set v2 (heap_set v1 (heap_set v0 hb)))

/-- What Copy returns. -/
def aggS (S : Store) (a1 : Option Addr) (c1 : Nat) (a2 : Option Addr) (c2 : Nat) : Value := .agg #[.slice a1 S.bars.length c1, .int .i64 S.kerf, .slice a2 S.pieces.length c2, .int .i64 S.wrong]
def objS (S : Store) (a1 : Option Addr) (c1 : Nat) (a2 : Option Addr) (c2 : Nat) : Obj := .cells #[.slice a1 S.bars.length c1, .int .i64 S.kerf, .slice a2 S.pieces.length c2, .int .i64 S.wrong] 25
def Cp1 (w W : World) (S : Store) (v : Value) : Prop := ∃ a1 c1 a2 c2, v = aggS S a1 c1 a2 c2 ∧ CopyAt w.heap.size W v S
/-- Two copies whose pieces lie apart. -/
def Cp2 (w W : World) (S : Store) (v v' : Value) : Prop := ∃ a1 c1 a2 c2 d1 e1 d2 e2, v = aggS S a1 c1 a2 c2 ∧ v' = aggS S d1 e1 d2 e2 ∧ CopyAt w.heap.size W v S ∧ CopyAt w.heap.size W v' S ∧
  ∀ g, (Value.slice a2 S.pieces.length c2).ownBlock = some g → (Value.slice d2 S.pieces.length e2).ownBlock ≠ some g
theorem CopyAt.low {lo lo' : Nat} {w : World} {v : Value} {S : Store} (h : CopyAt lo w v S) (hl : lo' ≤ lo) : CopyAt lo' w v S := by
  obtain ⟨bv, pv, hs, rfl, h1, h2, h3, h4⟩ := h
  exact ⟨bv, pv, hs, rfl, own_base h1 hl, own_base h2 hl, fun i hi => own_base (h3 i hi) hl, h4⟩
theorem CopyAt.shape {lo : Nat} {w : World} {v : Value} {S : Store} (h : CopyAt lo w v S) : ∃ a1 c1 a2 c2, v = aggS S a1 c1 a2 c2 := by
  obtain ⟨bv, pv, hs, rfl, h1, h2, _⟩ := h
  obtain ⟨bA, bcap, rfl, _⟩ := own_form h1
  obtain ⟨pA, pcap, rfl, _⟩ := own_form h2
  exact ⟨_, _, _, _, rfl⟩
theorem Cp1.next {w W W' : World} {S : Store} {v : Value} (h : Cp1 w W S v) (hb : Below W.heap.size W W') : Cp1 w W' S v := by
  obtain ⟨a1, c1, a2, c2, e, h⟩ := h
  exact ⟨a1, c1, a2, c2, e, h.below hb⟩
theorem Cp2.next {w W W' : World} {S : Store} {v v' : Value} (h : Cp2 w W S v v') (hb : Below W.heap.size W W') : Cp2 w W' S v v' := by
  obtain ⟨a1, c1, a2, c2, d1, e1, d2, e2, q1, q2, h1, h2, h3⟩ := h
  exact ⟨a1, c1, a2, c2, d1, e1, d2, e2, q1, q2, h1.below hb, h2.below hb, h3⟩
theorem Cp1.put4 {w W : World} {S : Store} {v v0 v1 v2 v3 z0 z1 z2 z3 : Value} {b : Nat} (h : Cp1 w W S v) (hb : W.heap[b]? = some (.cells #[z0,z1,z2,z3] 25)) : Cp1 w (put4 W b v0 v1 v2 v3) S v := by
  obtain ⟨a1, c1, a2, c2, e, h⟩ := h
  exact ⟨a1, c1, a2, c2, e, h.put4 hb⟩
theorem Cp2.put4 {w W : World} {S : Store} {v v' v0 v1 v2 v3 z0 z1 z2 z3 : Value} {b : Nat} (h : Cp2 w W S v v') (hb : W.heap[b]? = some (.cells #[z0,z1,z2,z3] 25)) : Cp2 w (put4 W b v0 v1 v2 v3) S v v' := by
  obtain ⟨a1, c1, a2, c2, d1, e1, d2, e2, q1, q2, h1, h2, h3⟩ := h
  exact ⟨a1, c1, a2, c2, d1, e1, d2, e2, q1, q2, h1.put4 hb, h2.put4 hb, h3⟩
theorem CopyAt.piecesBlock {lo : Nat} {w : World} {a1 a2 : Option Addr} {c1 c2 : Nat} {S : Store} (h : CopyAt lo w (aggS S a1 c1 a2 c2) S) {g : Nat} (hg : (Value.slice a2 S.pieces.length c2).ownBlock = some g) : lo ≤ g ∧ g < w.heap.size := by
  obtain ⟨hs, _, h2, _⟩ := h.parts
  refine ⟨?_, ?_⟩
  · refine Nat.le_of_not_lt fun hc => own_ne h2 (.inr hc) hg
  · refine Nat.lt_of_not_le fun hc => own_ne h2 (.inl hc) hg
/-- The second copy. -/
theorem Cp1.second {w W W' : World} {S : Store} {v v' : Value} (h : Cp1 w W S v) (hb : Below W.heap.size W W') (hw : w.heap.size ≤ W.heap.size) (hc : CopyAt W.heap.size W' v' S) : Cp2 w W' S v v' := by
  obtain ⟨a1, c1, a2, c2, rfl, h⟩ := h
  obtain ⟨d1, e1, d2, e2, rfl⟩ := hc.shape
  refine ⟨a1, c1, a2, c2, d1, e1, d2, e2, rfl, rfl, h.below hb, hc.low hw, fun g hg hg' => ?_⟩
  have := (h.piecesBlock hg).2
  have := (hc.piecesBlock hg').1
  omega

def Box4 (w W : World) (b : Nat) : Prop := w.heap.size ≤ b ∧ ∃ z0 z1 z2 z3, W.heap[b]? = some (.cells #[z0,z1,z2,z3] 25)
theorem Box4.next {w W W' : World} {b : Nat} (h : Box4 w W b) (hb : Below W.heap.size W W') : Box4 w W' b := by
  obtain ⟨h1, z0, z1, z2, z3, h2⟩ := h
  exact ⟨h1, z0, z1, z2, z3, (hb.block b (Array.getElem?_eq_some_iff.1 h2).1).trans h2⟩
theorem Box4.put4 {w W : World} {b b' : Nat} {v0 v1 v2 v3 : Value} (h : Box4 w W b') (hb : Box4 w W b) : Box4 w (put4 W b v0 v1 v2 v3) b' := by
  by_cases e : b' = b
  · subst e
    obtain ⟨h1, z0, z1, z2, z3, h2⟩ := h
    exact ⟨h1, _, _, _, _, put4_heap h2⟩
  · obtain ⟨h1, z0, z1, z2, z3, h2⟩ := h
    exact ⟨h1, z0, z1, z2, z3, put4_other h2 e⟩
def ptr (b : Nat) : Value := .pointer (some ⟨b, 0, none⟩)

def o0Two : Oper := { dst := some 63, op := Go.Op.load 25 (Go.Operand.tmp 3), type := 25, pos := "outright.go:67", after := #[], guard := none }
def o1Two : Oper := { dst := some 64, op := Go.Op.call { callee := Go.Callee.value (Go.Operand.func 35), args := #[Go.Operand.tmp 63], argTypes := #[25] }, type := 25, pos := "outright.go:67", after := #[{ on := 0, ground := Go.Ground.data }], guard := none }
def o2Two : Oper := { dst := some 65, op := Go.Op.load 25 (Go.Operand.tmp 3), type := 25, pos := "outright.go:67", after := #[], guard := none }
def o3Two : Oper := { dst := some 66, op := Go.Op.call { callee := Go.Callee.value (Go.Operand.func 35), args := #[Go.Operand.tmp 65], argTypes := #[25] }, type := 25, pos := "outright.go:67", after := #[{ on := 2, ground := Go.Ground.data }, { on := 1, ground := Go.Ground.chain }], guard := none }
def o4Two : Oper := { dst := some 11, op := Go.Op.alloc 25, type := 0, pos := "outright.go:67", after := #[], guard := none }
def o5Two : Oper := { dst := some 12, op := Go.Op.alloc 25, type := 0, pos := "outright.go:67", after := #[], guard := none }
def o6Two : Oper := { dst := none, op := Go.Op.store 25 (Go.Operand.tmp 11) (Go.Operand.tmp 64), type := 0, pos := "outright.go:67", after := #[{ on := 4, ground := Go.Ground.data }, { on := 1, ground := Go.Ground.data }, { on := 3, ground := Go.Ground.chain }, { on := 0, ground := Go.Ground.phase }, { on := 1, ground := Go.Ground.phase }, { on := 2, ground := Go.Ground.textOnly Go.Departure.lateStores }, { on := 3, ground := Go.Ground.textOnly Go.Departure.lateStoresUnsure }, { on := 4, ground := Go.Ground.phase }, { on := 5, ground := Go.Ground.phase }], guard := none }
def o7Two : Oper := { dst := none, op := Go.Op.store 25 (Go.Operand.tmp 12) (Go.Operand.tmp 66), type := 0, pos := "outright.go:67", after := #[{ on := 5, ground := Go.Ground.data }, { on := 3, ground := Go.Ground.data }, { on := 6, ground := Go.Ground.chain }, { on := 0, ground := Go.Ground.phase }, { on := 1, ground := Go.Ground.phase }, { on := 2, ground := Go.Ground.phase }, { on := 3, ground := Go.Ground.phase }, { on := 4, ground := Go.Ground.phase }, { on := 5, ground := Go.Ground.phase }, { on := 6, ground := Go.Ground.phase }], guard := none }
def opsTwo : Array Oper := #[o0Two, o1Two, o2Two, o3Two, o4Two, o5Two, o6Two, o7Two]
/-- What holds while the region runs: l tells which operations have come up. -/
structure IvTwo (a0 : Act) (w : World) (S : Store) (sv : Value) (l : Array Bool) (a : Act) (W : World) : Prop where
  sz : l.size = 8
  df : a.defers = a0.defers
  ts : a.tmps.size = a0.tmps.size
  ot : ∀ k, k ≠ 63 → k ≠ 64 → k ≠ 65 → k ≠ 66 → k ≠ 11 → k ≠ 12 → a.tmps[k]? = a0.tmps[k]?
  bl : Below w.heap.size w W
  l0 : l[0]? = some true → a.tmps[63]? = some sv
  l1 : l[1]? = some true → ∃ v, a.tmps[64]? = some v ∧ Cp1 w W S v
  l2 : l[2]? = some true → a.tmps[65]? = some sv
  l3 : l[3]? = some true → ∃ v v', a.tmps[64]? = some v ∧ a.tmps[66]? = some v' ∧ Cp2 w W S v v'
  l4 : l[4]? = some true → ∃ b, a.tmps[11]? = some (ptr b) ∧ Box4 w W b
  l5 : l[5]? = some true → ∃ b, a.tmps[12]? = some (ptr b) ∧ Box4 w W b
  l45 : l[4]? = some true → l[5]? = some true → ∀ b, a.tmps[11]? = some (ptr b) → a.tmps[12]? ≠ some (ptr b)
  l6 : l[6]? = some true → ∃ b a1 c1 a2 c2, a.tmps[11]? = some (ptr b) ∧ a.tmps[64]? = some (aggS S a1 c1 a2 c2) ∧ W.heap[b]? = some (objS S a1 c1 a2 c2)
  l7 : l[7]? = some true → ∃ b a1 c1 a2 c2, a.tmps[12]? = some (ptr b) ∧ a.tmps[66]? = some (aggS S a1 c1 a2 c2) ∧ W.heap[b]? = some (objS S a1 c1 a2 c2)
  s6 : l[6]? = some true → l[1]? = some true ∧ l[4]? = some true ∧ l[3]? = some true ∧ l[5]? = some true
  s7 : l[7]? = some true → l[6]? = some true
  s3 : l[3]? = some true → l[1]? = some true
theorem IvTwo.next {a0 : Act} {w : World} {S : Store} {sv : Value} {l : Array Bool} {a : Act} {W W' : World} (h : IvTwo a0 w S sv l a W) (hb : Below W.heap.size W W') : IvTwo a0 w S sv l a W' := by
  refine ⟨h.sz, h.df, h.ts, h.ot, h.bl.trans (hb.mono h.bl.size), h.l0, fun e => ?_, h.l2, fun e => ?_, fun e => ?_, fun e => ?_, h.l45, fun e => ?_, fun e => ?_, h.s6, h.s7, h.s3⟩
  · obtain ⟨v, h1, h2⟩ := h.l1 e; exact ⟨v, h1, h2.next hb⟩
  · obtain ⟨v, v', h1, h2, h3⟩ := h.l3 e; exact ⟨v, v', h1, h2, h3.next hb⟩
  · obtain ⟨b, h1, h2⟩ := h.l4 e; exact ⟨b, h1, h2.next hb⟩
  · obtain ⟨b, h1, h2⟩ := h.l5 e; exact ⟨b, h1, h2.next hb⟩
  · obtain ⟨b, a1, c1, a2, c2, h1, h2, h3⟩ := h.l6 e; exact ⟨b, a1, c1, a2, c2, h1, h2, (hb.block b (Array.getElem?_eq_some_iff.1 h3).1).trans h3⟩
  · obtain ⟨b, a1, c1, a2, c2, h1, h2, h3⟩ := h.l7 e; exact ⟨b, a1, c1, a2, c2, h1, h2, (hb.block b (Array.getElem?_eq_some_iff.1 h3).1).trans h3⟩
theorem set_at {l : Array Bool} {i j : Nat} (h : i ≠ j) : (l.setIfInBounds i true)[j]? = l[j]? := Array.getElem?_setIfInBounds_ne h
theorem put_at {a : Act} {d k : Nat} {v : Value} (h : d ≠ k) : (a.put (some d) v).tmps[k]? = a.tmps[k]? := Array.getElem?_setIfInBounds_ne h
theorem put_self {a : Act} {d : Nat} {v : Value} (h : d < a.tmps.size) : (a.put (some d) v).tmps[d]? = some v := by simp [Act.put, h]
theorem put_size {a : Act} {d : Nat} {v : Value} : (a.put (some d) v).tmps.size = a.tmps.size := by simp [Act.put]
theorem eval_of {a : Act} {t : Nat} {v : Value} (h : a.tmps[t]? = some v) : a.eval (.tmp t) = v := by simp [Act.eval, h]
theorem set_self {l : Array Bool} {i : Nat} (h : i < l.size) : (l.setIfInBounds i true)[i]? = some true := by simp [h]
theorem set_keep {l : Array Bool} {i j : Nat} (h : l[j]? = some true) : (l.setIfInBounds i true)[j]? = some true := by
  by_cases e : i = j
  · subst e; have := (Array.getElem?_eq_some_iff.1 h).1; simp [this]
  · rw [set_at e]; exact h
theorem IvTwo.step0 {a0 : Act} {w : World} {S : Store} {sv : Value} {l : Array Bool} {a : Act} {W : World} (h : IvTwo a0 w S sv l a W) (hlt : 63 < a0.tmps.size) : IvTwo a0 w S sv (l.setIfInBounds 0 true) (a.put (some 63) sv) W := by
  have hs : ∀ k, 63 ≠ k → (a.put (some 63) sv).tmps[k]? = a.tmps[k]? := fun k hk => put_at hk
  have hself : (a.put (some 63) sv).tmps[63]? = some sv := put_self (by rw [h.ts]; exact hlt)
  refine ⟨by simp [h.sz], h.df, by rw [put_size]; exact h.ts, fun k e63 e64 e65 e66 e11 e12 => by rw [hs k (Ne.symm e63)]; exact h.ot k e63 e64 e65 e66 e11 e12, h.bl, ?_, ?_, ?_, ?_, ?_, ?_, ?_, ?_, ?_, ?_, ?_, ?_⟩
  · exact fun _ => hself
  · intro e
    rw [set_at (by decide)] at e
    obtain ⟨v, h1, h2⟩ := h.l1 e
    exact ⟨v, by rw [hs _ (by decide)]; exact h1, h2⟩
  · intro e
    rw [set_at (by decide)] at e
    rw [put_at (by decide)]
    exact h.l2 e
  · intro e
    rw [set_at (by decide)] at e
    obtain ⟨v, v', h1, h2, h3⟩ := h.l3 e
    exact ⟨v, v', by rw [hs _ (by decide)]; exact h1, by rw [hs _ (by decide)]; exact h2, h3⟩
  · intro e
    rw [set_at (by decide)] at e
    obtain ⟨b, h1, h2⟩ := h.l4 e
    exact ⟨b, by rw [hs _ (by decide)]; exact h1, h2⟩
  · intro e
    rw [set_at (by decide)] at e
    obtain ⟨b, h1, h2⟩ := h.l5 e
    exact ⟨b, by rw [hs _ (by decide)]; exact h1, h2⟩
  · intro e4 e5
    rw [set_at (by decide)] at e4 e5
    rw [put_at (by decide), put_at (by decide)]
    exact h.l45 e4 e5
  · intro e
    rw [set_at (by decide)] at e
    obtain ⟨b, a1, c1, a2, c2, h1, h2, h3⟩ := h.l6 e
    exact ⟨b, a1, c1, a2, c2, by rw [hs _ (by decide)]; exact h1, by rw [hs _ (by decide)]; exact h2, h3⟩
  · intro e
    rw [set_at (by decide)] at e
    obtain ⟨b, a1, c1, a2, c2, h1, h2, h3⟩ := h.l7 e
    exact ⟨b, a1, c1, a2, c2, by rw [hs _ (by decide)]; exact h1, by rw [hs _ (by decide)]; exact h2, h3⟩
  · intro e
    rw [set_at (by decide)] at e
    obtain ⟨q1, q2, q3, q4⟩ := h.s6 e
    exact ⟨set_keep q1, set_keep q2, set_keep q3, set_keep q4⟩
  · intro e
    rw [set_at (by decide)] at e
    exact set_keep (h.s7 e)
  · intro e
    rw [set_at (by decide)] at e
    exact set_keep (h.s3 e)
theorem IvTwo.step2 {a0 : Act} {w : World} {S : Store} {sv : Value} {l : Array Bool} {a : Act} {W : World} (h : IvTwo a0 w S sv l a W) (hlt : 65 < a0.tmps.size) : IvTwo a0 w S sv (l.setIfInBounds 2 true) (a.put (some 65) sv) W := by
  have hs : ∀ k, 65 ≠ k → (a.put (some 65) sv).tmps[k]? = a.tmps[k]? := fun k hk => put_at hk
  have hself : (a.put (some 65) sv).tmps[65]? = some sv := put_self (by rw [h.ts]; exact hlt)
  refine ⟨by simp [h.sz], h.df, by rw [put_size]; exact h.ts, fun k e63 e64 e65 e66 e11 e12 => by rw [hs k (Ne.symm e65)]; exact h.ot k e63 e64 e65 e66 e11 e12, h.bl, ?_, ?_, ?_, ?_, ?_, ?_, ?_, ?_, ?_, ?_, ?_, ?_⟩
  · intro e
    rw [set_at (by decide)] at e
    rw [put_at (by decide)]
    exact h.l0 e
  · intro e
    rw [set_at (by decide)] at e
    obtain ⟨v, h1, h2⟩ := h.l1 e
    exact ⟨v, by rw [hs _ (by decide)]; exact h1, h2⟩
  · exact fun _ => hself
  · intro e
    rw [set_at (by decide)] at e
    obtain ⟨v, v', h1, h2, h3⟩ := h.l3 e
    exact ⟨v, v', by rw [hs _ (by decide)]; exact h1, by rw [hs _ (by decide)]; exact h2, h3⟩
  · intro e
    rw [set_at (by decide)] at e
    obtain ⟨b, h1, h2⟩ := h.l4 e
    exact ⟨b, by rw [hs _ (by decide)]; exact h1, h2⟩
  · intro e
    rw [set_at (by decide)] at e
    obtain ⟨b, h1, h2⟩ := h.l5 e
    exact ⟨b, by rw [hs _ (by decide)]; exact h1, h2⟩
  · intro e4 e5
    rw [set_at (by decide)] at e4 e5
    rw [put_at (by decide), put_at (by decide)]
    exact h.l45 e4 e5
  · intro e
    rw [set_at (by decide)] at e
    obtain ⟨b, a1, c1, a2, c2, h1, h2, h3⟩ := h.l6 e
    exact ⟨b, a1, c1, a2, c2, by rw [hs _ (by decide)]; exact h1, by rw [hs _ (by decide)]; exact h2, h3⟩
  · intro e
    rw [set_at (by decide)] at e
    obtain ⟨b, a1, c1, a2, c2, h1, h2, h3⟩ := h.l7 e
    exact ⟨b, a1, c1, a2, c2, by rw [hs _ (by decide)]; exact h1, by rw [hs _ (by decide)]; exact h2, h3⟩
  · intro e
    rw [set_at (by decide)] at e
    obtain ⟨q1, q2, q3, q4⟩ := h.s6 e
    exact ⟨set_keep q1, set_keep q2, set_keep q3, set_keep q4⟩
  · intro e
    rw [set_at (by decide)] at e
    exact set_keep (h.s7 e)
  · intro e
    rw [set_at (by decide)] at e
    exact set_keep (h.s3 e)
theorem IvTwo.step1 {a0 : Act} {w : World} {S : Store} {sv : Value} {l : Array Bool} {a : Act} {W : World} (h : IvTwo a0 w S sv l a W) (hlt : 64 < a0.tmps.size) (hi : l[1]? = some false) {nv : Value} (hv : Cp1 w W S nv) : IvTwo a0 w S sv (l.setIfInBounds 1 true) (a.put (some 64) nv) W := by
  have hs : ∀ k, 64 ≠ k → (a.put (some 64) nv).tmps[k]? = a.tmps[k]? := fun k hk => put_at hk
  have hself : (a.put (some 64) nv).tmps[64]? = some nv := put_self (by rw [h.ts]; exact hlt)
  refine ⟨by simp [h.sz], h.df, by rw [put_size]; exact h.ts, fun k e63 e64 e65 e66 e11 e12 => by rw [hs k (Ne.symm e64)]; exact h.ot k e63 e64 e65 e66 e11 e12, h.bl, ?_, ?_, ?_, ?_, ?_, ?_, ?_, ?_, ?_, ?_, ?_, ?_⟩
  · intro e
    rw [set_at (by decide)] at e
    rw [put_at (by decide)]
    exact h.l0 e
  · exact fun _ => ⟨nv, hself, hv⟩
  · intro e
    rw [set_at (by decide)] at e
    rw [put_at (by decide)]
    exact h.l2 e
  · intro e
    rw [set_at (by decide)] at e
    rw [h.s3 e] at hi
    cases hi
  · intro e
    rw [set_at (by decide)] at e
    obtain ⟨b, h1, h2⟩ := h.l4 e
    exact ⟨b, by rw [hs _ (by decide)]; exact h1, h2⟩
  · intro e
    rw [set_at (by decide)] at e
    obtain ⟨b, h1, h2⟩ := h.l5 e
    exact ⟨b, by rw [hs _ (by decide)]; exact h1, h2⟩
  · intro e4 e5
    rw [set_at (by decide)] at e4 e5
    rw [put_at (by decide), put_at (by decide)]
    exact h.l45 e4 e5
  · intro e
    rw [set_at (by decide)] at e
    rw [(h.s6 e).1] at hi
    cases hi
  · intro e
    rw [set_at (by decide)] at e
    rw [(h.s6 (h.s7 e)).1] at hi
    cases hi
  · intro e
    rw [set_at (by decide)] at e
    rw [(h.s6 e).1] at hi
    cases hi
  · intro e
    rw [set_at (by decide)] at e
    exact set_keep (h.s7 e)
  · intro e
    exact set_self (by rw [h.sz]; decide)
theorem IvTwo.step3 {a0 : Act} {w : World} {S : Store} {sv : Value} {l : Array Bool} {a : Act} {W : World} (h : IvTwo a0 w S sv l a W) (hlt : 66 < a0.tmps.size) (hi : l[3]? = some false) (hi1 : l[1]? = some true) {v nv : Value} (hu : a.tmps[64]? = some v) (hv : Cp2 w W S v nv) : IvTwo a0 w S sv (l.setIfInBounds 3 true) (a.put (some 66) nv) W := by
  have hs : ∀ k, 66 ≠ k → (a.put (some 66) nv).tmps[k]? = a.tmps[k]? := fun k hk => put_at hk
  have hself : (a.put (some 66) nv).tmps[66]? = some nv := put_self (by rw [h.ts]; exact hlt)
  refine ⟨by simp [h.sz], h.df, by rw [put_size]; exact h.ts, fun k e63 e64 e65 e66 e11 e12 => by rw [hs k (Ne.symm e66)]; exact h.ot k e63 e64 e65 e66 e11 e12, h.bl, ?_, ?_, ?_, ?_, ?_, ?_, ?_, ?_, ?_, ?_, ?_, ?_⟩
  · intro e
    rw [set_at (by decide)] at e
    rw [put_at (by decide)]
    exact h.l0 e
  · intro e
    rw [set_at (by decide)] at e
    obtain ⟨v, h1, h2⟩ := h.l1 e
    exact ⟨v, by rw [hs _ (by decide)]; exact h1, h2⟩
  · intro e
    rw [set_at (by decide)] at e
    rw [put_at (by decide)]
    exact h.l2 e
  · exact fun _ => ⟨v, nv, by rw [hs _ (by decide)]; exact hu, hself, hv⟩
  · intro e
    rw [set_at (by decide)] at e
    obtain ⟨b, h1, h2⟩ := h.l4 e
    exact ⟨b, by rw [hs _ (by decide)]; exact h1, h2⟩
  · intro e
    rw [set_at (by decide)] at e
    obtain ⟨b, h1, h2⟩ := h.l5 e
    exact ⟨b, by rw [hs _ (by decide)]; exact h1, h2⟩
  · intro e4 e5
    rw [set_at (by decide)] at e4 e5
    rw [put_at (by decide), put_at (by decide)]
    exact h.l45 e4 e5
  · intro e
    rw [set_at (by decide)] at e
    rw [(h.s6 e).2.2.1] at hi
    cases hi
  · intro e
    rw [set_at (by decide)] at e
    rw [(h.s6 (h.s7 e)).2.2.1] at hi
    cases hi
  · intro e
    rw [set_at (by decide)] at e
    rw [(h.s6 e).2.2.1] at hi
    cases hi
  · intro e
    rw [set_at (by decide)] at e
    exact set_keep (h.s7 e)
  · intro e
    exact set_keep hi1
theorem IvTwo.step4 {a0 : Act} {w : World} {S : Store} {sv : Value} {l : Array Bool} {a : Act} {W : World} (h : IvTwo a0 w S sv l a W) (hlt : 11 < a0.tmps.size) (hi : l[4]? = some false) {b : Nat} (hb : Box4 w W b) (hn : l[5]? = some true → a.tmps[12]? ≠ some (ptr b)) : IvTwo a0 w S sv (l.setIfInBounds 4 true) (a.put (some 11) (ptr b)) W := by
  have hs : ∀ k, 11 ≠ k → (a.put (some 11) (ptr b)).tmps[k]? = a.tmps[k]? := fun k hk => put_at hk
  have hself : (a.put (some 11) (ptr b)).tmps[11]? = some (ptr b) := put_self (by rw [h.ts]; exact hlt)
  refine ⟨by simp [h.sz], h.df, by rw [put_size]; exact h.ts, fun k e63 e64 e65 e66 e11 e12 => by rw [hs k (Ne.symm e11)]; exact h.ot k e63 e64 e65 e66 e11 e12, h.bl, ?_, ?_, ?_, ?_, ?_, ?_, ?_, ?_, ?_, ?_, ?_, ?_⟩
  · intro e
    rw [set_at (by decide)] at e
    rw [put_at (by decide)]
    exact h.l0 e
  · intro e
    rw [set_at (by decide)] at e
    obtain ⟨v, h1, h2⟩ := h.l1 e
    exact ⟨v, by rw [hs _ (by decide)]; exact h1, h2⟩
  · intro e
    rw [set_at (by decide)] at e
    rw [put_at (by decide)]
    exact h.l2 e
  · intro e
    rw [set_at (by decide)] at e
    obtain ⟨v, v', h1, h2, h3⟩ := h.l3 e
    exact ⟨v, v', by rw [hs _ (by decide)]; exact h1, by rw [hs _ (by decide)]; exact h2, h3⟩
  · exact fun _ => ⟨b, hself, hb⟩
  · intro e
    rw [set_at (by decide)] at e
    obtain ⟨b, h1, h2⟩ := h.l5 e
    exact ⟨b, by rw [hs _ (by decide)]; exact h1, h2⟩
  · intro e4 e5 b' hb' hb2
    rw [set_at (by decide)] at e5
    rw [hself] at hb'
    rw [hs _ (by decide)] at hb2
    have : b = b' := by injection hb' with q; injection q with q; injection q with q; injection q
    subst this
    exact hn e5 hb2
  · intro e
    rw [set_at (by decide)] at e
    rw [(h.s6 e).2.1] at hi
    cases hi
  · intro e
    rw [set_at (by decide)] at e
    rw [(h.s6 (h.s7 e)).2.1] at hi
    cases hi
  · intro e
    rw [set_at (by decide)] at e
    rw [(h.s6 e).2.1] at hi
    cases hi
  · intro e
    rw [set_at (by decide)] at e
    exact set_keep (h.s7 e)
  · intro e
    rw [set_at (by decide)] at e
    exact set_keep (h.s3 e)
theorem IvTwo.step5 {a0 : Act} {w : World} {S : Store} {sv : Value} {l : Array Bool} {a : Act} {W : World} (h : IvTwo a0 w S sv l a W) (hlt : 12 < a0.tmps.size) (hi : l[5]? = some false) {b : Nat} (hb : Box4 w W b) (hn : l[4]? = some true → a.tmps[11]? ≠ some (ptr b)) : IvTwo a0 w S sv (l.setIfInBounds 5 true) (a.put (some 12) (ptr b)) W := by
  have hs : ∀ k, 12 ≠ k → (a.put (some 12) (ptr b)).tmps[k]? = a.tmps[k]? := fun k hk => put_at hk
  have hself : (a.put (some 12) (ptr b)).tmps[12]? = some (ptr b) := put_self (by rw [h.ts]; exact hlt)
  refine ⟨by simp [h.sz], h.df, by rw [put_size]; exact h.ts, fun k e63 e64 e65 e66 e11 e12 => by rw [hs k (Ne.symm e12)]; exact h.ot k e63 e64 e65 e66 e11 e12, h.bl, ?_, ?_, ?_, ?_, ?_, ?_, ?_, ?_, ?_, ?_, ?_, ?_⟩
  · intro e
    rw [set_at (by decide)] at e
    rw [put_at (by decide)]
    exact h.l0 e
  · intro e
    rw [set_at (by decide)] at e
    obtain ⟨v, h1, h2⟩ := h.l1 e
    exact ⟨v, by rw [hs _ (by decide)]; exact h1, h2⟩
  · intro e
    rw [set_at (by decide)] at e
    rw [put_at (by decide)]
    exact h.l2 e
  · intro e
    rw [set_at (by decide)] at e
    obtain ⟨v, v', h1, h2, h3⟩ := h.l3 e
    exact ⟨v, v', by rw [hs _ (by decide)]; exact h1, by rw [hs _ (by decide)]; exact h2, h3⟩
  · intro e
    rw [set_at (by decide)] at e
    obtain ⟨b, h1, h2⟩ := h.l4 e
    exact ⟨b, by rw [hs _ (by decide)]; exact h1, h2⟩
  · exact fun _ => ⟨b, hself, hb⟩
  · intro e4 e5 b' hb' hb2
    rw [set_at (by decide)] at e4
    rw [hself] at hb2
    rw [hs _ (by decide)] at hb'
    have : b = b' := by injection hb2 with q; injection q with q; injection q with q; injection q
    subst this
    exact hn e4 hb'
  · intro e
    rw [set_at (by decide)] at e
    rw [(h.s6 e).2.2.2] at hi
    cases hi
  · intro e
    rw [set_at (by decide)] at e
    rw [(h.s6 (h.s7 e)).2.2.2] at hi
    cases hi
  · intro e
    rw [set_at (by decide)] at e
    rw [(h.s6 e).2.2.2] at hi
    cases hi
  · intro e
    rw [set_at (by decide)] at e
    exact set_keep (h.s7 e)
  · intro e
    rw [set_at (by decide)] at e
    exact set_keep (h.s3 e)

theorem IvTwo.step6 {a0 : Act} {w : World} {S : Store} {sv : Value} {l : Array Bool} {a : Act} {W : World} (h : IvTwo a0 w S sv l a W) (hi : l[6]? = some false) (e1 : l[1]? = some true) (e3 : l[3]? = some true) (e4 : l[4]? = some true) (e5 : l[5]? = some true)
    {b : Nat} {a1 a2 : Option Addr} {c1 c2 : Nat} (hb : a.tmps[11]? = some (ptr b)) (hv : a.tmps[64]? = some (aggS S a1 c1 a2 c2)) (hB : Box4 w W b) : IvTwo a0 w S sv (l.setIfInBounds 6 true) a (put4 W b (.slice a1 S.bars.length c1) (.int .i64 S.kerf) (.slice a2 S.pieces.length c2) (.int .i64 S.wrong)) := by
  have hB' := hB
  obtain ⟨hb0, z0, z1, z2, z3, hz⟩ := hB'
  refine ⟨by simp [h.sz], h.df, h.ts, h.ot, put4_below h.bl hb0, ?_, ?_, ?_, ?_, ?_, ?_, ?_, ?_, ?_, ?_, ?_, ?_⟩
  · intro e; rw [set_at (by decide)] at e; exact h.l0 e
  · intro e; rw [set_at (by decide)] at e; obtain ⟨v, h1, h2⟩ := h.l1 e; exact ⟨v, h1, h2.put4 hz⟩
  · intro e; rw [set_at (by decide)] at e; exact h.l2 e
  · intro e; rw [set_at (by decide)] at e; obtain ⟨v, v', h1, h2, h3⟩ := h.l3 e; exact ⟨v, v', h1, h2, h3.put4 hz⟩
  · intro e; rw [set_at (by decide)] at e; obtain ⟨b', h1, h2⟩ := h.l4 e; exact ⟨b', h1, h2.put4 hB⟩
  · intro e; rw [set_at (by decide)] at e; obtain ⟨b', h1, h2⟩ := h.l5 e; exact ⟨b', h1, h2.put4 hB⟩
  · intro q4 q5; rw [set_at (by decide)] at q4 q5; exact h.l45 q4 q5
  · intro _; exact ⟨b, a1, c1, a2, c2, hb, hv, put4_heap hz⟩
  · intro e; rw [set_at (by decide)] at e; rw [h.s7 e] at hi; cases hi
  · intro _; exact ⟨set_keep e1, set_keep e4, set_keep e3, set_keep e5⟩
  · intro _; exact set_self (by rw [h.sz]; decide)
  · intro e; rw [set_at (by decide)] at e; exact set_keep (h.s3 e)
theorem IvTwo.step7 {a0 : Act} {w : World} {S : Store} {sv : Value} {l : Array Bool} {a : Act} {W : World} (h : IvTwo a0 w S sv l a W) (hi6 : l[6]? = some true)
    {b : Nat} {a1 a2 : Option Addr} {c1 c2 : Nat} (hb : a.tmps[12]? = some (ptr b)) (hv : a.tmps[66]? = some (aggS S a1 c1 a2 c2)) (hB : Box4 w W b) : IvTwo a0 w S sv (l.setIfInBounds 7 true) a (put4 W b (.slice a1 S.bars.length c1) (.int .i64 S.kerf) (.slice a2 S.pieces.length c2) (.int .i64 S.wrong)) := by
  have hB' := hB
  obtain ⟨hb0, z0, z1, z2, z3, hz⟩ := hB'
  refine ⟨by simp [h.sz], h.df, h.ts, h.ot, put4_below h.bl hb0, ?_, ?_, ?_, ?_, ?_, ?_, ?_, ?_, ?_, ?_, ?_, ?_⟩
  · intro e; rw [set_at (by decide)] at e; exact h.l0 e
  · intro e; rw [set_at (by decide)] at e; obtain ⟨v, h1, h2⟩ := h.l1 e; exact ⟨v, h1, h2.put4 hz⟩
  · intro e; rw [set_at (by decide)] at e; exact h.l2 e
  · intro e; rw [set_at (by decide)] at e; obtain ⟨v, v', h1, h2, h3⟩ := h.l3 e; exact ⟨v, v', h1, h2, h3.put4 hz⟩
  · intro e; rw [set_at (by decide)] at e; obtain ⟨b', h1, h2⟩ := h.l4 e; exact ⟨b', h1, h2.put4 hB⟩
  · intro e; rw [set_at (by decide)] at e; obtain ⟨b', h1, h2⟩ := h.l5 e; exact ⟨b', h1, h2.put4 hB⟩
  · intro q4 q5; rw [set_at (by decide)] at q4 q5; exact h.l45 q4 q5
  · intro e; rw [set_at (by decide)] at e
    obtain ⟨b', a1', c1', a2', c2', h1, h2, h3⟩ := h.l6 e
    refine ⟨b', a1', c1', a2', c2', h1, h2, put4_other h3 fun q => ?_⟩
    subst q
    obtain ⟨_, q4, _, q5⟩ := h.s6 hi6
    exact h.l45 q4 q5 _ h1 hb
  · intro _; exact ⟨b, a1, c1, a2, c2, hb, hv, put4_heap hz⟩
  · intro e; rw [set_at (by decide)] at e; obtain ⟨q1, q2, q3, q4⟩ := h.s6 e; exact ⟨set_keep q1, set_keep q2, set_keep q3, set_keep q4⟩
  · intro _; exact set_keep hi6
  · intro e; rw [set_at (by decide)] at e; exact set_keep (h.s3 e)
theorem wpOp_of {P : Program} {ops : Array Oper} {Q : Exit → Act → World → Prop} {i : Nat} {o : Oper} {K : Act → World → Prop} {a : Act} {w : World} (ho : ops[i]? = some o) (hg : o.guard = none) (h : o.wp P a w K Q) : wpOp P ops Q i K a w := by
  unfold wpOp
  simp only [ho]
  rw [if_pos (by simp [Region.wanted, hg])]
  exact .inl h
theorem run_to {P : Program} {o : Oper} {a : Act} {w w' : World} {n : Next} {K : Act → World → Prop} {Q : Exit → Act → World → Prop} (h : (execOp a.eval o).run P w = .ok n w') (hk : o.upon P a K Q (.ok n w')) : o.wp P a w K Q := by
  unfold Oper.wp
  rw [h]
  exact hk

set_option maxRecDepth 100000 in
set_option maxHeartbeats 4000000 in
theorem regionTwo {Q : Exit → Act → World → Prop} {a0 : Act} {w : World} {bs : Nat} {S : Store} {a1 a2 : Option Addr} {c1 c2 : Nat} (hbs : w.heap[bs]? = some (objS S a1 c1 a2 c2)) (hst : StoreAt w.heap.size w (aggS S a1 c1 a2 c2) S) (hF : Few S)
    (hp : a0.tmps[3]? = some (ptr bs)) (hz : a0.tmps.size = 124)
    (K : ∀ W v b f1 f2 g1 g2 k1 k2 m1 m2 u, Below w.heap.size w W → Cp2 w W S (aggS S f1 k1 f2 k2) (aggS S g1 m1 g2 m2) → W.heap[b]? = some (objS S f1 k1 f2 k2) → W.heap[u]? = some (objS S g1 m1 g2 m2) → b ≠ u → w.heap.size ≤ b → w.heap.size ≤ u → v = aggS S a1 c1 a2 c2 →
      Q .normal ((((((a0.put (some 63) v).put (some 64) (aggS S f1 k1 f2 k2)).put (some 65) v).put (some 66) (aggS S g1 m1 g2 m2)).put (some 11) (ptr b)).put (some 12) (ptr u)) W) :
    (Code.region 7 opsTwo true).wp Try.prog Q a0 w := by
  have hblt : bs < w.heap.size := (Array.getElem?_eq_some_iff.1 hbs).1
  refine wp_region_inv (P := Try.prog) (ops := opsTwo) (by kernel_rfl) (IvTwo a0 w S (aggS S a1 c1 a2 c2)) (fun l a W h => h.sz) ?_ ?_ ?_ ?_
  · intro l a W h hall
    have e0 := hall 0 (by decide)
    have e1 := hall 1 (by decide)
    have e2 := hall 2 (by decide)
    have e3 := hall 3 (by decide)
    have e4 := hall 4 (by decide)
    have e5 := hall 5 (by decide)
    have e6 := hall 6 (by decide)
    have e7 := hall 7 (by decide)
    obtain ⟨b, f1, k1, f2, k2, x1, x2, x3⟩ := h.l6 e6
    obtain ⟨u, g1, m1, g2, m2, y1, y2, y3⟩ := h.l7 e7
    obtain ⟨v, v', q1, q2, q3⟩ := h.l3 e3
    obtain ⟨b', r1, r2⟩ := h.l4 e4
    obtain ⟨u', r3, r4⟩ := h.l5 e5
    rw [x2] at q1
    rw [y2] at q2
    injection q1 with q1
    injection q2 with q2
    subst q1 q2
    have eb : b' = b := by rw [x1] at r1; injection r1 with q; injection q with q; injection q with q; injection q with q; exact q.symm
    have eu : u' = u := by rw [y1] at r3; injection r3 with q; injection q with q; injection q with q; injection q with q; exact q.symm
    subst eb eu
    have hne : b' ≠ u' := fun q => h.l45 e4 e5 _ x1 (by rw [q]; exact y1)
    have := K W _ b' f1 f2 g1 g2 k1 k2 m1 m2 u' h.bl q3 x3 y3 hne r2.1 r4.1 rfl
    have ea : a = ((((((a0.put (some 63) (aggS S a1 c1 a2 c2)).put (some 64) (aggS S f1 k1 f2 k2)).put (some 65) (aggS S a1 c1 a2 c2)).put (some 66) (aggS S g1 m1 g2 m2)).put (some 11) (ptr b')).put (some 12) (ptr u')) := by
      have ht : a.tmps = (((((a0.tmps.setIfInBounds 63 (aggS S a1 c1 a2 c2)).setIfInBounds 64 (aggS S f1 k1 f2 k2)).setIfInBounds 65 (aggS S a1 c1 a2 c2)).setIfInBounds 66 (aggS S g1 m1 g2 m2)).setIfInBounds 11 (ptr b')).setIfInBounds 12 (ptr u') := by
        apply Array.ext_getElem?
        intro k
        simp only [Array.getElem?_setIfInBounds, Array.size_setIfInBounds, hz]
        by_cases n5 : k = 12
        · subst n5
          simp only [if_true, if_false, Nat.reduceEqDiff]
          simp [y1]
        by_cases n4 : k = 11
        · subst n4
          simp only [if_true, if_false, Nat.reduceEqDiff]
          simp [x1]
        by_cases n3 : k = 66
        · subst n3
          simp only [if_true, if_false, Nat.reduceEqDiff]
          simp [y2]
        by_cases n2 : k = 65
        · subst n2
          simp only [if_true, if_false, Nat.reduceEqDiff]
          simp [(h.l2 e2)]
        by_cases n1 : k = 64
        · subst n1
          simp only [if_true, if_false, Nat.reduceEqDiff]
          simp [x2]
        by_cases n0 : k = 63
        · subst n0
          simp only [if_true, if_false, Nat.reduceEqDiff]
          simp [(h.l0 e0)]
        rw [if_neg (Ne.symm n5), if_neg (Ne.symm n4), if_neg (Ne.symm n3), if_neg (Ne.symm n2), if_neg (Ne.symm n1), if_neg (Ne.symm n0)]
        exact h.ot k n0 n1 n2 n3 n4 n5
      have hd := h.df
      obtain ⟨at', ad⟩ := a
      obtain ⟨bt, bd⟩ := a0
      simp only at ht hd
      subst hd
      rw [ht]
      rfl
    rw [ea]
    exact this
  · intro l a W h hex
    refine ready_some h.sz ?_ hex
    intro i o ho e he
    have : ∀ i, i < 8 → ∀ e ∈ (opsTwo[i]!).after, e.on < i := by decide
    have hi : i < 8 := (Array.getElem?_eq_some_iff.1 ho).1
    have := this i hi e
    rw [show opsTwo[i]! = o from by simp [Array.getElem!_eq_getD, Array.getD_eq_getD_getElem?, ho]] at this
    exact this he
  · intro l a W i h hi hr
    have hi8 : i < 8 := by have := (Array.getElem?_eq_some_iff.1 hi).1; rw [h.sz] at this; exact this
    have hsrc : a.eval (.tmp 3) = ptr bs := eval_of (by rw [h.ot 3 (by decide) (by decide) (by decide) (by decide) (by decide) (by decide)]; exact hp)
    have hbW : W.heap[bs]? = some (objS S a1 c1 a2 c2) := (h.bl.block bs hblt).trans hbs
    have hstW : StoreAt W.heap.size W (aggS S a1 c1 a2 c2) S := (hst.below h.bl).mono h.bl.size
    have hg : ∀ {j : Nat}, l.getD j false = true → l[j]? = some true := fun {j} q => by
      by_cases hj : j < l.size
      · simp [Array.getD, hj] at q; rw [Array.getElem?_eq_getElem hj, q]
      · simp [Array.getD, hj] at q
    match i, hi8 with
    | 0, _ =>
      refine wpOp_of (o := o0Two) rfl rfl (run_to (n := .value (aggS S a1 c1 a2 c2)) (w' := W) ?_ ?_)
      · simp only [execOp, o0Two]; rw [hsrc]; unfold ptr aggS; obtain ⟨c0, c1, c2, c3⟩ := box4_of hbW; go_simp
      · exact h.step0 (by rw [hz]; decide)
    | 1, _ =>
      have r0 := hg (hr o1Two rfl ⟨0, .data⟩ (by simp [o1Two]) rfl)
      refine wpOp_of (o := o1Two) rfl rfl (run_to (n := .enter 35 #[aggS S a1 c1 a2 c2]) (w' := W) ?_ ?_)
      · simp only [execOp, o1Two]; go_simp; rw [h.l0 r0]; rfl
      · refine (Copy_any _ S W hstW hF).mono ?_
        rintro e w' ⟨v, rfl, hc, hb⟩
        obtain ⟨f1, k1, f2, k2, rfl⟩ := hc.shape
        exact (h.next hb).step1 (by rw [hz]; decide) hi ⟨f1, k1, f2, k2, rfl, hc.low h.bl.size⟩
    | 2, _ =>
      refine wpOp_of (o := o2Two) rfl rfl (run_to (n := .value (aggS S a1 c1 a2 c2)) (w' := W) ?_ ?_)
      · simp only [execOp, o2Two]; rw [hsrc]; unfold ptr aggS; obtain ⟨c0, c1, c2, c3⟩ := box4_of hbW; go_simp
      · exact h.step2 (by rw [hz]; decide)
    | 3, _ =>
      have r2 := hg (hr o3Two rfl ⟨2, .data⟩ (by simp [o3Two]) rfl)
      have r1 := hg (hr o3Two rfl ⟨1, .chain⟩ (by simp [o3Two]) rfl)
      obtain ⟨v, hu, hv⟩ := h.l1 r1
      refine wpOp_of (o := o3Two) rfl rfl (run_to (n := .enter 35 #[aggS S a1 c1 a2 c2]) (w' := W) ?_ ?_)
      · simp only [execOp, o3Two]; go_simp; rw [h.l2 r2]; rfl
      · refine (Copy_any _ S W hstW hF).mono ?_
        rintro e w' ⟨v', rfl, hc, hb⟩
        exact (h.next hb).step3 (by rw [hz]; decide) hi r1 hu (hv.second hb h.bl.size hc)
    | 4, _ =>
      refine wpOp_of (o := o4Two) rfl rfl (run_to (n := .value (ptr W.heap.size)) (w' := W.alloc (.cells #[.slice none 0 0, .int .i64 0, .slice none 0 0, .int .i64 0] 25)) ?_ ?_)
      · simp only [execOp, o4Two]; go_simp; rfl
      · have hb := (Below.refl W.heap.size W).alloc (Nat.le_refl _) (.cells #[.slice none 0 0, .int .i64 0, .slice none 0 0, .int .i64 0] 25)
        refine (h.next hb).step4 (by rw [hz]; decide) hi ⟨h.bl.size, _, _, _, _, heap_new W _⟩ fun e5 q => ?_
        obtain ⟨b, q1, _, _, _, _, _, q2⟩ := h.l5 e5
        have := (Array.getElem?_eq_some_iff.1 q2).1
        rw [q1] at q
        injection q with q; injection q with q; injection q with q; injection q with q
        omega
    | 5, _ =>
      refine wpOp_of (o := o5Two) rfl rfl (run_to (n := .value (ptr W.heap.size)) (w' := W.alloc (.cells #[.slice none 0 0, .int .i64 0, .slice none 0 0, .int .i64 0] 25)) ?_ ?_)
      · simp only [execOp, o5Two]; go_simp; rfl
      · have hb := (Below.refl W.heap.size W).alloc (Nat.le_refl _) (.cells #[.slice none 0 0, .int .i64 0, .slice none 0 0, .int .i64 0] 25)
        refine (h.next hb).step5 (by rw [hz]; decide) hi ⟨h.bl.size, _, _, _, _, heap_new W _⟩ fun e5 q => ?_
        obtain ⟨b, q1, _, _, _, _, _, q2⟩ := h.l4 e5
        have := (Array.getElem?_eq_some_iff.1 q2).1
        rw [q1] at q
        injection q with q; injection q with q; injection q with q; injection q with q
        omega
    | 6, _ =>
      have r4 := hg (hr o6Two rfl ⟨4, .data⟩ (by simp [o6Two]) rfl)
      have r1 := hg (hr o6Two rfl ⟨1, .data⟩ (by simp [o6Two]) rfl)
      have r3 := hg (hr o6Two rfl ⟨3, .chain⟩ (by simp [o6Two]) rfl)
      have r5 := hg (hr o6Two rfl ⟨5, .phase⟩ (by simp [o6Two]) rfl)
      obtain ⟨v, q1, f1, k1, f2, k2, rfl, _⟩ := h.l1 r1
      obtain ⟨b, q2, q3⟩ := h.l4 r4
      have hB := q3
      obtain ⟨_, z0, z1, z2, z3, hzz⟩ := q3
      refine wpOp_of (o := o6Two) rfl rfl (run_to (n := .skip) (w' := put4 W b (.slice f1 S.bars.length k1) (.int .i64 S.kerf) (.slice f2 S.pieces.length k2) (.int .i64 S.wrong)) ?_ ?_)
      · simp only [execOp, o6Two]; rw [eval_of q1, eval_of q2]
        obtain ⟨⟨y0, y1, y2, y3⟩, ff⟩ := box4f_of hzz
        have f0' := ff 0
        have f1' := ff 1
        have f2' := ff 2
        have f3' := ff 3
        clear ff
        unfold ptr aggS put4
        go_simp
      · exact h.step6 hi r1 r3 r4 r5 q2 q1 hB
    | 7, _ =>
      have r6 := hg (hr o7Two rfl ⟨6, .chain⟩ (by simp [o7Two]) rfl)
      have r5 := hg (hr o7Two rfl ⟨5, .data⟩ (by simp [o7Two]) rfl)
      have r3 := hg (hr o7Two rfl ⟨3, .data⟩ (by simp [o7Two]) rfl)
      obtain ⟨v, v', _, q1, f1, k1, f2, k2, d1, e1, d2, e2, rfl, rfl, _⟩ := h.l3 r3
      obtain ⟨b, q2, q3⟩ := h.l5 r5
      have hB := q3
      obtain ⟨_, z0, z1, z2, z3, hzz⟩ := q3
      refine wpOp_of (o := o7Two) rfl rfl (run_to (n := .skip) (w' := put4 W b (.slice d1 S.bars.length e1) (.int .i64 S.kerf) (.slice d2 S.pieces.length e2) (.int .i64 S.wrong)) ?_ ?_)
      · simp only [execOp, o7Two]; rw [eval_of q1, eval_of q2]
        obtain ⟨⟨y0, y1, y2, y3⟩, ff⟩ := box4f_of hzz
        have f0' := ff 0
        have f1' := ff 1
        have f2' := ff 2
        have f3' := ff 3
        clear ff
        unfold ptr aggS put4
        go_simp
      · exact h.step7 r6 q2 q1 hB
  · have hn : ∀ i : Nat, (Array.replicate 8 false)[i]? = some true → False := fun i e => by
      rw [Array.getElem?_replicate] at e
      split at e
      · cases e
      · cases e
    exact ⟨by simp [opsTwo], rfl, rfl, fun _ _ _ _ _ _ _ => rfl, drew_below w, fun e => (hn _ e).elim, fun e => (hn _ e).elim, fun e => (hn _ e).elim, fun e => (hn _ e).elim, fun e => (hn _ e).elim, fun e => (hn _ e).elim, fun e => (hn _ e).elim, fun e => (hn _ e).elim, fun e => (hn _ e).elim, fun e => (hn _ e).elim, fun e => (hn _ e).elim, fun e => (hn _ e).elim⟩
end Go.Proofs.Ytjflpmhlodgadaa
