/-
  Own laws: append onto a row of the call's own, out of a slice that may be nil or empty; a plain region's form and the form of a step of a region that draws.
-/
import Derived.Test.YtjflpmhlodgadaaBase
import Derived.Maps.AppendAt
import Derived.Deep.AppendLies
import Derived.RegionTactic
import Derived.OwnWalk
namespace Go.Proofs.Ytjflpmhlodgadaa
open Go.RowKit

/-- Where the cells of a slice's elements are; a nil slice is let in. -/
def CellsFrom (w : World) (A : Option Addr) (m size : Nat) (news : List Value) : Prop :=
  news.length = m * size ∧ (0 < m → ∃ ad, A = some ad ∧ ∀ j u, news[j]? = some u → w.cell? (ad.add j) = some u)
theorem CellsFrom.kept {w w' : World} {A : Option Addr} {m size B : Nat} {news : List Value} (h : CellsFrom w A m size news) (hb : Below B w w') (hB : ∀ ad, A = some ad → ad.block < B) : CellsFrom w' A m size news := by
  refine ⟨h.1, fun hm => ?_⟩
  obtain ⟨ad, he, hc⟩ := h.2 hm
  refine ⟨ad, he, fun j u hu => (hb.cell (p := ad.add j) ?_).trans (hc j u hu)⟩
  have : (ad.add j).block = ad.block := by unfold Addr.add; split <;> rfl
  rw [this]
  exact hB ad he

/-- What a value looks like that owns a row. -/
theorem own_form {w : World} {base : Nat} {e : TypeId} {size : Nat} {v : Value} {n : Nat} {xs : List Value} (h : w.ownsRow base e size v n xs) : ∃ A cap, v = .slice A n cap ∧ n ≤ cap := by
  rcases h.2 with ⟨rfl, rfl⟩ | ⟨g, cap, cur, rfl, _, _, hc, _⟩
  · exact ⟨none, 0, rfl, Nat.le_refl _⟩
  · exact ⟨_, cap, rfl, hc⟩

section
variable {P : Program} {w : World} {base : Nat} {t e : TypeId} {i : TypeInfo} {z : Value} {size bytes : Nat} {v : Value} {n : Nat} {xs : List Value} {A : Option Addr} {m c : Nat} {news : List Value}

theorem run_onto (ty : TypeId) (ht : P.underlying t = some (.slice e)) (hi : P.info? e = some i) (hz : i.zero = some z) (hsize : i.size = size) (hby : i.bytes = bytes) (hzs : z.cells.size = size) (hsz : 0 < size)
    (hown : w.ownsRow base e size v n xs) (hf : CellsFrom w A m size news) (h1 : ∀ u ∈ news, u.oneCell' = true)
    (h63 : n + m ≤ maxLen) (hbytes : (n + m) * bytes ≤ 140737488355328) (hbase : base ≤ w.heap.size) :
    ∃ A' c' w', (Builtin.append_ #[t, t] ty #[v, .slice A m c]).run P w = .ok (.slice A' (n + m) c') w' ∧ w'.ownsRow base e size (.slice A' (n + m) c') (n + m) (xs ++ news) ∧ w.grownBy w' v.ownBlock ∧
      ((Value.slice A' (n + m) c').ownBlock = v.ownBlock ∨ (Value.slice A' (n + m) c').ownBlock = some w.heap.size) := by
  suffices h : ∃ v' w', (Builtin.append_ #[t, t] ty #[v, .slice A m c]).run P w = .ok v' w' ∧ w'.ownsRow base e size v' (n + m) (xs ++ news) ∧ w.grownBy w' v.ownBlock ∧
      (v'.ownBlock = v.ownBlock ∨ v'.ownBlock = some w.heap.size) by
    obtain ⟨v', w', h1, h2, h3⟩ := h
    obtain ⟨A', c', rfl, _⟩ := own_form h2
    exact ⟨A', c', w', h1, h2, h3⟩
  cases A with
  | none =>
    have hm : m = 0 := by
      refine Classical.byContradiction fun h => ?_
      obtain ⟨ad, he, _⟩ := hf.2 (by omega)
      cases he
    subst hm
    obtain rfl : news = [] := by
      have := hf.1
      rw [Nat.zero_mul] at this
      exact List.length_eq_zero_iff.1 this
    refine ⟨v, w, ?_, by simpa using hown, ⟨rfl, rfl, rfl, Nat.le_refl _, fun _ _ _ => rfl⟩, .inl rfl⟩
    rcases hown.2 with ⟨rfl, rfl⟩ | ⟨g, cap, cur, rfl, _, _, hnc, _⟩
    · simp [Builtin.append_, run_underlying ht, sizeOf, typeInfo, hi, Builtin.lenOf, Builtin.firstCells]
    · simp [Builtin.append_, run_underlying ht, sizeOf, typeInfo, hi, Builtin.lenOf, Builtin.firstCells, hnc, storeCells]
  | some ad =>
    have hc : ∀ j u, news[j]? = some u → w.cell? (ad.add j) = some u := fun j u hu => by
      by_cases hm : m = 0
      · subst hm
        have := hf.1
        rw [Nat.zero_mul] at this
        rw [List.length_eq_zero_iff.1 this] at hu
        cases hu
      · obtain ⟨ad', he, h⟩ := hf.2 (by omega)
        cases he
        exact h j u hu
    obtain ⟨v', w', hr, h2, h3, _, h5⟩ := run_append_own_at (P := P) w base t ty e i z size bytes ht hi hz hsize hby hzs hsz v n xs hown ad m c news hf.1 hc h1 h63 hbytes hbase
    exact ⟨v', w', hr, h2, h3, h5⟩

variable {o : Oper} {a : Act} {K : Act → World → Prop} {Q : Exit → Act → World → Prop} {ops : Array Oper} {rest : List Oper}

theorem wp_onto (s x : Operand) (ho : o.op = .call { callee := .builtin .append, args := #[s, x], argTypes := #[t, t] })
    (ht : P.underlying t = some (.slice e)) (hi : P.info? e = some i) (hz : i.zero = some z) (hsize : i.size = size) (hby : i.bytes = bytes) (hzs : z.cells.size = size) (hsz : 0 < size)
    (hs : a.eval s = v) (hown : w.ownsRow base e size v n xs) (hx : a.eval x = .slice A m c) (hf : CellsFrom w A m size news) (h1 : ∀ u ∈ news, u.oneCell' = true)
    (h63 : n + m ≤ maxLen) (hbytes : (n + m) * bytes ≤ 140737488355328) (hbase : base ≤ w.heap.size)
    (h : ∀ A' c' w', w'.ownsRow base e size (.slice A' (n + m) c') (n + m) (xs ++ news) → w.grownBy w' v.ownBlock → ((Value.slice A' (n + m) c').ownBlock = v.ownBlock ∨ (Value.slice A' (n + m) c').ownBlock = some w.heap.size) → K (a.put o.dst (.slice A' (n + m) c')) w') : o.wp P a w K Q := by
  obtain ⟨A', c', w', hr, h2, h3, h4⟩ := run_onto (P := P) (c := c) o.type ht hi hz hsize hby hzs hsz hown hf h1 h63 hbytes hbase
  unfold Oper.wp execOp
  simp only [ho, resolve, invoke, builtin, Sem.run_bind, Sem.run_pure, Result.andThen_ok, List.map_toArray, List.map_cons, List.map_nil, hs, hx, hr]
  exact h A' c' w' h2 h3 h4

theorem wpList_onto (hgd : o.guard = none) (s x : Operand) (ho : o.op = .call { callee := .builtin .append, args := #[s, x], argTypes := #[t, t] })
    (ht : P.underlying t = some (.slice e)) (hi : P.info? e = some i) (hz : i.zero = some z) (hsize : i.size = size) (hby : i.bytes = bytes) (hzs : z.cells.size = size) (hsz : 0 < size)
    (hs : a.eval s = v) (hown : w.ownsRow base e size v n xs) (hx : a.eval x = .slice A m c) (hf : CellsFrom w A m size news) (h1 : ∀ u ∈ news, u.oneCell' = true)
    (h63 : n + m ≤ maxLen) (hbytes : (n + m) * bytes ≤ 140737488355328) (hbase : base ≤ w.heap.size)
    (h : ∀ A' c' w', w'.ownsRow base e size (.slice A' (n + m) c') (n + m) (xs ++ news) → w.grownBy w' v.ownBlock → ((Value.slice A' (n + m) c').ownBlock = v.ownBlock ∨ (Value.slice A' (n + m) c').ownBlock = some w.heap.size) → wpList P ops Q rest (a.put o.dst (.slice A' (n + m) c')) w') : wpList P ops Q (o :: rest) a w :=
  wpList_plain hgd fun _ hK => wp_onto s x ho ht hi hz hsize hby hzs hsz hs hown hx hf h1 h63 hbytes hbase fun A' c' w' h2 h3 h4 => hK _ _ (h A' c' w' h2 h3 h4)

theorem step_onto {E : Prop} (hgd : o.guard = none) (s x : Operand) (ho : o.op = .call { callee := .builtin .append, args := #[s, x], argTypes := #[t, t] })
    (ht : P.underlying t = some (.slice e)) (hi : P.info? e = some i) (hz : i.zero = some z) (hsize : i.size = size) (hby : i.bytes = bytes) (hzs : z.cells.size = size) (hsz : 0 < size)
    (hs : a.eval s = v) (hown : w.ownsRow base e size v n xs) (hx : a.eval x = .slice A m c) (hf : CellsFrom w A m size news) (h1 : ∀ u ∈ news, u.oneCell' = true)
    (h63 : n + m ≤ maxLen) (hbytes : (n + m) * bytes ≤ 140737488355328) (hbase : base ≤ w.heap.size)
    (h : ∀ A' c' w', w'.ownsRow base e size (.slice A' (n + m) c') (n + m) (xs ++ news) → w.grownBy w' v.ownBlock → ((Value.slice A' (n + m) c').ownBlock = v.ownBlock ∨ (Value.slice A' (n + m) c').ownBlock = some w.heap.size) → K (a.put o.dst (.slice A' (n + m) c')) w') :
    if Region.wanted o (yielded ops a.tmps) = true then Oper.wp P o a w K Q else E := by
  rw [if_pos (by simp [Region.wanted, hgd])]
  exact wp_onto s x ho ht hi hz hsize hby hzs hsz hs hown hx hf h1 h63 hbytes hbase h
end

theorem add_plain0 (b off j : Nat) : (⟨b, off, none⟩ : Addr).add j = ⟨b, off + j, none⟩ := by rw [Addr.add_lit]
theorem from_ints {B : Nat} {w : World} {a : Option Addr} {cap : Nat} {xs : List Int} {n : Nat} (h : IntsAt B w (.slice a n cap) xs) : CellsFrom w a n 1 (xs.map (Value.int .i64)) := by
  obtain ⟨a', cap', b, off, hv, hl, hm, ha, hc, hw⟩ := h
  injection hv with h1 h2 h3
  subst h1; subst h2; subst h3
  refine ⟨by simp, fun h0 => ⟨_, (ha h0).1, fun j u hu => ?_⟩⟩
  simp only [List.getElem?_map, Option.map_eq_some_iff] at hu
  obtain ⟨x, hx, rfl⟩ := hu
  have hj := (List.getElem?_eq_some_iff.1 hx).1
  rw [add_plain0, hc j hj, nth_lt hj, (List.getElem?_eq_some_iff.1 hx).2]
/-- The cells of the first k bars. -/
def bcells (bs : List Bar) : Nat → List Value
  | 0 => []
  | k + 1 => bcells bs k ++ [.int .i64 (bnth bs k).heat, .int .i64 (bnth bs k).long]
/-- The cells of the first k pieces, their heats being the values hs. -/
def pcells (ps : List Piece) (hs : Nat → Value) : Nat → List Value
  | 0 => []
  | k + 1 => pcells ps hs k ++ [.int .i64 (pnth ps k).long, hs k]
theorem bcells_length (bs : List Bar) : ∀ k, (bcells bs k).length = k * 2
  | 0 => rfl
  | k + 1 => by simp only [bcells, List.length_append, bcells_length bs k, List.length_cons, List.length_nil]; omega
theorem pcells_length (ps : List Piece) (hs : Nat → Value) : ∀ k, (pcells ps hs k).length = k * 2
  | 0 => rfl
  | k + 1 => by simp only [pcells, List.length_append, pcells_length ps hs k, List.length_cons, List.length_nil]; omega
theorem bcells_at (bs : List Bar) {i : Nat} : ∀ {k : Nat}, i < k → (bcells bs k)[i * 2]? = some (.int .i64 (bnth bs i).heat) ∧ (bcells bs k)[i * 2 + 1]? = some (.int .i64 (bnth bs i).long)
  | k + 1, h => by
    have hl := bcells_length bs k
    by_cases e : i = k
    · subst e
      constructor
      · simp only [bcells]; rw [List.getElem?_append_right (by omega), show i * 2 - (bcells bs i).length = 0 by omega]; rfl
      · simp only [bcells]; rw [List.getElem?_append_right (by omega), show i * 2 + 1 - (bcells bs i).length = 1 by omega]; rfl
    · have := bcells_at bs (i := i) (k := k) (by omega)
      simp only [bcells]
      exact ⟨by rw [List.getElem?_append_left (by omega)]; exact this.1, by rw [List.getElem?_append_left (by omega)]; exact this.2⟩
theorem pcells_at (ps : List Piece) (hs : Nat → Value) {i : Nat} : ∀ {k : Nat}, i < k → (pcells ps hs k)[i * 2]? = some (.int .i64 (pnth ps i).long) ∧ (pcells ps hs k)[i * 2 + 1]? = some (hs i)
  | k + 1, h => by
    have hl := pcells_length ps hs k
    by_cases e : i = k
    · subst e
      constructor
      · simp only [pcells]; rw [List.getElem?_append_right (by omega), show i * 2 - (pcells ps hs i).length = 0 by omega]; rfl
      · simp only [pcells]; rw [List.getElem?_append_right (by omega), show i * 2 + 1 - (pcells ps hs i).length = 1 by omega]; rfl
    · have := pcells_at ps hs (i := i) (k := k) (by omega)
      simp only [pcells]
      exact ⟨by rw [List.getElem?_append_left (by omega)]; exact this.1, by rw [List.getElem?_append_left (by omega)]; exact this.2⟩
theorem bcells_one (bs : List Bar) : ∀ k, ∀ u ∈ bcells bs k, u.oneCell' = true
  | 0, u, h => by cases h
  | k + 1, u, h => by
    simp only [bcells, List.mem_append, List.mem_cons, List.not_mem_nil, or_false] at h
    rcases h with h | rfl | rfl
    · exact bcells_one bs k u h
    · rfl
    · rfl
theorem bcells_cell (bs : List Bar) {w : World} {b off : Nat} : ∀ {k : Nat}, (∀ i, i < k → w.cell? ⟨b, off + i * 2, none⟩ = some (.int .i64 (bnth bs i).heat) ∧ w.cell? ⟨b, off + i * 2 + 1, none⟩ = some (.int .i64 (bnth bs i).long)) →
    ∀ j u, (bcells bs k)[j]? = some u → w.cell? ⟨b, off + j, none⟩ = some u
  | 0, _, j, u, h => by simp [bcells] at h
  | k + 1, hc, j, u, h => by
    have hl := bcells_length bs k
    have hj : j < (k + 1) * 2 := by have := (List.getElem?_eq_some_iff.1 h).1; rw [bcells_length] at this; exact this
    have hat := bcells_at bs (i := j / 2) (k := k + 1) (by omega)
    have hcc := hc (j / 2) (by omega)
    rcases Nat.mod_two_eq_zero_or_one j with h2 | h2
    · have e : j / 2 * 2 = j := by omega
      rw [e] at hat hcc
      rw [hat.1] at h
      cases h
      exact hcc.1
    · have e : j / 2 * 2 + 1 = j := by omega
      rw [Nat.add_assoc, e] at hcc
      rw [e] at hat
      rw [hat.2] at h
      cases h
      exact hcc.2
theorem from_bars {B : Nat} {w : World} {a : Option Addr} {cap n : Nat} {bs : List Bar} (h : BarsAt B w (.slice a n cap) bs) : CellsFrom w a n 2 (bcells bs n) := by
  obtain ⟨a', cap', b, off, hv, hl, hm, ha, hc, hw⟩ := h
  injection hv with h1 h2 h3
  subst h1; subst h2; subst h3
  refine ⟨bcells_length _ _, fun h0 => ⟨_, (ha h0).1, fun j u hu => ?_⟩⟩
  rw [add_plain0]
  exact bcells_cell bs hc j u hu

/-- A store in memory of the call's own, from block lo on. -/
def CopyAt (lo : Nat) (w : World) (v : Value) (S : Store) : Prop :=
  ∃ bv pv hs, v = .agg #[bv, .int .i64 S.kerf, pv, .int .i64 S.wrong] ∧ w.ownsRow lo 53 2 bv S.bars.length (bcells S.bars S.bars.length) ∧ w.ownsRow lo 60 2 pv S.pieces.length (pcells S.pieces hs S.pieces.length) ∧
    (∀ i, i < S.pieces.length → w.ownsRow lo 3 1 (hs i) (pnth S.pieces i).heats.length ((pnth S.pieces i).heats.map (Value.int .i64))) ∧
    (∀ x ∈ S.bars, I64 x.heat ∧ I64 x.long) ∧ (∀ x ∈ S.pieces, I64 x.long ∧ ∀ h ∈ x.heats, I64 h) ∧ I64 S.kerf ∧ I64 S.wrong
end Go.Proofs.Ytjflpmhlodgadaa
