/-
  Own laws: append onto a row of the call's own, out of a slice that may be nil or empty; the cells of deeds and of sights.
-/
import Derived.Test.YtgjikoebneiamaaLAns
import Derived.Maps.AppendAt
import Derived.Deep.AppendLies
import Derived.RegionTactic
import Derived.OwnWalk
namespace Go.Proofs.Ytgjikoebneiamaa
open Go.RowKit

/-- Where the cells of a slice's elements are; a nil slice is let in. -/
def CellsFrom (w : World) (A : Option Addr) (m size : Nat) (news : List Value) : Prop :=
  news.length = m * size ∧ (0 < m → ∃ ad, A = some ad ∧ ∀ j u, news[j]? = some u → w.cell? (ad.add j) = some u)
theorem CellsFrom.kept {w w' : World} {A : Option Addr} {m size B : Nat} {news : List Value} (h : CellsFrom w A m size news) (hb : Below B w w') (hB : ∀ ad, A = some ad → ad.block < B) : CellsFrom w' A m size news := by
  refine ⟨h.1, fun hm => ?_⟩
  obtain ⟨ad, he, hc⟩ := h.2 hm
  refine ⟨ad, he, fun j u hu => (hb.cell (p := ad.add j) ?_).trans (hc j u hu)⟩
  have : (ad.add j).block = ad.block := by unfold Addr.add; split <;> rfl
  rw [this]
  exact hB ad he

section
variable {P : Program} {w : World} {base : Nat} {t e : TypeId} {i : TypeInfo} {z : Value} {size bytes : Nat} {v : Value} {n : Nat} {xs : List Value} {A : Option Addr} {m c : Nat} {news : List Value}

theorem run_onto (ty : TypeId) (ht : P.underlying t = some (.slice e)) (hi : P.info? e = some i) (hz : i.zero = some z) (hsize : i.size = size) (hby : i.bytes = bytes) (hzs : z.cells.size = size) (hsz : 0 < size)
    (hown : w.ownsRow base e size v n xs) (hf : CellsFrom w A m size news) (h1 : ∀ u ∈ news, u.oneCell' = true)
    (h63 : n + m ≤ maxLen) (hbytes : (n + m) * bytes ≤ 140737488355328) (hbase : base ≤ w.heap.size) :
    ∃ A' c' w', (Builtin.append_ #[t, t] ty #[v, .slice A m c]).run P w = .ok (.slice A' (n + m) c') w' ∧ w'.ownsRow base e size (.slice A' (n + m) c') (n + m) (xs ++ news) ∧ w.grownBy w' v.ownBlock ∧
      ((Value.slice A' (n + m) c').ownBlock = v.ownBlock ∨ (Value.slice A' (n + m) c').ownBlock = some w.heap.size) := by
  suffices h : ∃ v' w', (Builtin.append_ #[t, t] ty #[v, .slice A m c]).run P w = .ok v' w' ∧ w'.ownsRow base e size v' (n + m) (xs ++ news) ∧ w.grownBy w' v.ownBlock ∧
      (v'.ownBlock = v.ownBlock ∨ v'.ownBlock = some w.heap.size) by
    obtain ⟨v', w', h1, h2, h3⟩ := h
    obtain ⟨A', c', rfl, _⟩ := own_form h2
    exact ⟨A', c', w', h1, h2, h3⟩
  cases A with
  | none =>
    have hm : m = 0 := by
      refine Classical.byContradiction fun h => ?_
      obtain ⟨ad, he, _⟩ := hf.2 (by omega)
      cases he
    subst hm
    obtain rfl : news = [] := by
      have := hf.1
      rw [Nat.zero_mul] at this
      exact List.length_eq_zero_iff.1 this
    refine ⟨v, w, ?_, by simpa using hown, ⟨rfl, rfl, rfl, Nat.le_refl _, fun _ _ _ => rfl⟩, .inl rfl⟩
    rcases hown.2 with ⟨rfl, rfl⟩ | ⟨g, cap, cur, rfl, _, _, hnc, _⟩
    · simp [Builtin.append_, run_underlying ht, sizeOf, typeInfo, hi, Builtin.lenOf, Builtin.firstCells]
    · simp [Builtin.append_, run_underlying ht, sizeOf, typeInfo, hi, Builtin.lenOf, Builtin.firstCells, hnc, storeCells]
  | some ad =>
    have hc : ∀ j u, news[j]? = some u → w.cell? (ad.add j) = some u := fun j u hu => by
      by_cases hm : m = 0
      · subst hm
        have := hf.1
        rw [Nat.zero_mul] at this
        rw [List.length_eq_zero_iff.1 this] at hu
        cases hu
      · obtain ⟨ad', he, h⟩ := hf.2 (by omega)
        cases he
        exact h j u hu
    obtain ⟨v', w', hr, h2, h3, _, h5⟩ := run_append_own_at (P := P) w base t ty e i z size bytes ht hi hz hsize hby hzs hsz v n xs hown ad m c news hf.1 hc h1 h63 hbytes hbase
    exact ⟨v', w', hr, h2, h3, h5⟩

variable {o : Oper} {a : Act} {K : Act → World → Prop} {Q : Exit → Act → World → Prop} {ops : Array Oper} {rest : List Oper}

theorem wp_onto (s x : Operand) (ho : o.op = .call { callee := .builtin .append, args := #[s, x], argTypes := #[t, t] })
    (ht : P.underlying t = some (.slice e)) (hi : P.info? e = some i) (hz : i.zero = some z) (hsize : i.size = size) (hby : i.bytes = bytes) (hzs : z.cells.size = size) (hsz : 0 < size)
    (hs : a.eval s = v) (hown : w.ownsRow base e size v n xs) (hx : a.eval x = .slice A m c) (hf : CellsFrom w A m size news) (h1 : ∀ u ∈ news, u.oneCell' = true)
    (h63 : n + m ≤ maxLen) (hbytes : (n + m) * bytes ≤ 140737488355328) (hbase : base ≤ w.heap.size)
    (h : ∀ A' c' w', w'.ownsRow base e size (.slice A' (n + m) c') (n + m) (xs ++ news) → w.grownBy w' v.ownBlock → ((Value.slice A' (n + m) c').ownBlock = v.ownBlock ∨ (Value.slice A' (n + m) c').ownBlock = some w.heap.size) → K (a.put o.dst (.slice A' (n + m) c')) w') : o.wp P a w K Q := by
  obtain ⟨A', c', w', hr, h2, h3, h4⟩ := run_onto (P := P) (c := c) o.type ht hi hz hsize hby hzs hsz hown hf h1 h63 hbytes hbase
  unfold Oper.wp execOp
  simp only [ho, resolve, invoke, builtin, Sem.run_bind, Sem.run_pure, Result.andThen_ok, List.map_toArray, List.map_cons, List.map_nil, hs, hx, hr]
  exact h A' c' w' h2 h3 h4

theorem wpList_onto (hgd : o.guard = none) (s x : Operand) (ho : o.op = .call { callee := .builtin .append, args := #[s, x], argTypes := #[t, t] })
    (ht : P.underlying t = some (.slice e)) (hi : P.info? e = some i) (hz : i.zero = some z) (hsize : i.size = size) (hby : i.bytes = bytes) (hzs : z.cells.size = size) (hsz : 0 < size)
    (hs : a.eval s = v) (hown : w.ownsRow base e size v n xs) (hx : a.eval x = .slice A m c) (hf : CellsFrom w A m size news) (h1 : ∀ u ∈ news, u.oneCell' = true)
    (h63 : n + m ≤ maxLen) (hbytes : (n + m) * bytes ≤ 140737488355328) (hbase : base ≤ w.heap.size)
    (h : ∀ A' c' w', w'.ownsRow base e size (.slice A' (n + m) c') (n + m) (xs ++ news) → w.grownBy w' v.ownBlock → ((Value.slice A' (n + m) c').ownBlock = v.ownBlock ∨ (Value.slice A' (n + m) c').ownBlock = some w.heap.size) → wpList P ops Q rest (a.put o.dst (.slice A' (n + m) c')) w') : wpList P ops Q (o :: rest) a w :=
  wpList_plain hgd fun _ hK => wp_onto s x ho ht hi hz hsize hby hzs hsz hs hown hx hf h1 h63 hbytes hbase fun A' c' w' h2 h3 h4 => hK _ _ (h A' c' w' h2 h3 h4)

theorem step_onto {E : Prop} (hgd : o.guard = none) (s x : Operand) (ho : o.op = .call { callee := .builtin .append, args := #[s, x], argTypes := #[t, t] })
    (ht : P.underlying t = some (.slice e)) (hi : P.info? e = some i) (hz : i.zero = some z) (hsize : i.size = size) (hby : i.bytes = bytes) (hzs : z.cells.size = size) (hsz : 0 < size)
    (hs : a.eval s = v) (hown : w.ownsRow base e size v n xs) (hx : a.eval x = .slice A m c) (hf : CellsFrom w A m size news) (h1 : ∀ u ∈ news, u.oneCell' = true)
    (h63 : n + m ≤ maxLen) (hbytes : (n + m) * bytes ≤ 140737488355328) (hbase : base ≤ w.heap.size)
    (h : ∀ A' c' w', w'.ownsRow base e size (.slice A' (n + m) c') (n + m) (xs ++ news) → w.grownBy w' v.ownBlock → ((Value.slice A' (n + m) c').ownBlock = v.ownBlock ∨ (Value.slice A' (n + m) c').ownBlock = some w.heap.size) → K (a.put o.dst (.slice A' (n + m) c')) w') :
    if Region.wanted o (yielded ops a.tmps) = true then Oper.wp P o a w K Q else E := by
  rw [if_pos (by simp [Region.wanted, hgd])]
  exact wp_onto s x ho ht hi hz hsize hby hzs hsz hs hown hx hf h1 h63 hbytes hbase h
end

theorem add_plain0 (b off j : Nat) : (⟨b, off, none⟩ : Addr).add j = ⟨b, off + j, none⟩ := by rw [Addr.add_lit]

def dcell (d : Deed) : Nat → Value
  | 0 => .int .i64 d.what
  | 1 => .int .i64 d.at_
  | 2 => .int .i64 d.from_
  | 3 => .int .i64 d.bar
  | _ => .int .i64 d.smith
def scell (d : Sight) : Nat → Value
  | 0 => .int .i64 d.after
  | 1 => .int .i64 d.at_
  | 2 => .int .i64 d.from_
  | 3 => .int .i64 d.bar
  | _ => .int .i64 d.smith
/-- The cells of the first n deeds. -/
def dcells (ds : List Deed) (n : Nat) : List Value := (List.range (n * 5)).map (fun j => dcell (dnth ds (j / 5)) (j % 5))
def scells (ss : List Sight) (n : Nat) : List Value := (List.range (n * 5)).map (fun j => scell (snth ss (j / 5)) (j % 5))
theorem dcells_len (ds : List Deed) (n : Nat) : (dcells ds n).length = n * 5 := by simp [dcells]
theorem scells_len (ss : List Sight) (n : Nat) : (scells ss n).length = n * 5 := by simp [scells]
theorem dcells_at (ds : List Deed) {n i r : Nat} (hi : i < n) (hr : r < 5) : (dcells ds n)[i * 5 + r]? = some (dcell (dnth ds i) r) := by
  rw [dcells, List.getElem?_map, List.getElem?_range (by omega), Option.map_some, show (i * 5 + r) / 5 = i by omega, show (i * 5 + r) % 5 = r by omega]
theorem scells_at (ss : List Sight) {n i r : Nat} (hi : i < n) (hr : r < 5) : (scells ss n)[i * 5 + r]? = some (scell (snth ss i) r) := by
  rw [scells, List.getElem?_map, List.getElem?_range (by omega), Option.map_some, show (i * 5 + r) / 5 = i by omega, show (i * 5 + r) % 5 = r by omega]
theorem dcells_one (ds : List Deed) (n : Nat) : ∀ u ∈ dcells ds n, u.oneCell' = true := fun u hu => by
  obtain ⟨j, _, rfl⟩ := List.mem_map.1 hu
  have : j % 5 < 5 := Nat.mod_lt _ (by omega)
  generalize j % 5 = r at this ⊢
  rcases r with _ | _ | _ | _ | r <;> rfl
theorem scells_one (ss : List Sight) (n : Nat) : ∀ u ∈ scells ss n, u.oneCell' = true := fun u hu => by
  obtain ⟨j, _, rfl⟩ := List.mem_map.1 hu
  generalize j % 5 = r
  rcases r with _ | _ | _ | _ | r <;> rfl
theorem five_d {w : World} {b off i : Nat} {d : Deed} (h : Five w b (off + i * 5) d.what d.at_ d.from_ d.bar d.smith) {r : Nat} (hr : r < 5) : w.cell? ⟨b, off + (i * 5 + r), none⟩ = some (dcell d r) := by
  obtain ⟨h0, h1, h2, h3, h4⟩ := h
  rw [← Nat.add_assoc]
  match r, hr with
  | 0, _ => exact h0
  | 1, _ => exact h1
  | 2, _ => exact h2
  | 3, _ => exact h3
  | 4, _ => exact h4
theorem five_s {w : World} {b off i : Nat} {d : Sight} (h : Five w b (off + i * 5) d.after d.at_ d.from_ d.bar d.smith) {r : Nat} (hr : r < 5) : w.cell? ⟨b, off + (i * 5 + r), none⟩ = some (scell d r) := by
  obtain ⟨h0, h1, h2, h3, h4⟩ := h
  rw [← Nat.add_assoc]
  match r, hr with
  | 0, _ => exact h0
  | 1, _ => exact h1
  | 2, _ => exact h2
  | 3, _ => exact h3
  | 4, _ => exact h4
theorem from_deeds {B : Nat} {w : World} {a : Option Addr} {n cap : Nat} {ds : List Deed} (h : DeedsTo B w (.slice a n cap) ds n) : CellsFrom w a n 5 (dcells ds n) := by
  obtain ⟨a', cap', b, off, hv, hl, hm, ha, hc, hi⟩ := h
  injection hv with h1 h2 h3
  subst h1; subst h3
  refine ⟨dcells_len _ _, fun h0 => ⟨_, (ha h0).1, fun j u hu => ?_⟩⟩
  have hj : j < n * 5 := by have := (List.getElem?_eq_some_iff.1 hu).1; rwa [dcells_len] at this
  have e : j = j / 5 * 5 + j % 5 := by omega
  have hr : j % 5 < 5 := Nat.mod_lt _ (by omega)
  rw [e, dcells_at ds (by omega) hr] at hu
  rw [e, add_plain0, five_d (hc (j / 5) (by omega)) hr, hu]
theorem from_sights {B : Nat} {w : World} {a : Option Addr} {cap : Nat} {ss : List Sight} (h : SightsAt B w (.slice a ss.length cap) ss) : CellsFrom w a ss.length 5 (scells ss ss.length) := by
  obtain ⟨a', cap', b, off, hv, hl, hm, ha, hc, hi⟩ := h
  injection hv with h1 h2 h3
  subst h1; subst h3
  refine ⟨scells_len _ _, fun h0 => ⟨_, (ha h0).1, fun j u hu => ?_⟩⟩
  have hj : j < ss.length * 5 := by have := (List.getElem?_eq_some_iff.1 hu).1; rwa [scells_len] at this
  have e : j = j / 5 * 5 + j % 5 := by omega
  have hr : j % 5 < 5 := Nat.mod_lt _ (by omega)
  rw [e, scells_at ss (by omega) hr] at hu
  rw [e, add_plain0, five_s (hc (j / 5) (by omega)) hr, hu]
/-- A row of the call's own that holds the cells of deeds. -/
theorem deeds_of_own {w : World} {base : Nat} {v : Value} {ds : List Deed} {n : Nat} (h : w.ownsRow base 55 5 v n (dcells ds n)) (hi : ∀ i, i < n → DI64 (dnth ds i)) : DeedsTo w.heap.size w v ds n := by
  rcases h.2 with ⟨rfl, rfl⟩ | ⟨g, cap, cur, rfl, _, hg, hn, hm, _⟩
  · exact ⟨none, 0, 0, 0, rfl, Nat.le_refl _, by unfold maxLen; omega, fun h => by omega, fun i hi => by omega, fun i hi => by omega⟩
  · refine ⟨_, cap, g, 0, rfl, hn, hm, fun _ => ⟨rfl, heap_lt hg⟩, fun i hi' => ?_, hi⟩
    have hc : ∀ r, r < 5 → w.cell? ⟨g, i * 5 + r, none⟩ = some (dcell (dnth ds i) r) := fun r hr => (h.cellAt _ (by omega)).trans (dcells_at ds hi' hr)
    rw [Nat.zero_add]
    exact ⟨hc 0 (by omega), hc 1 (by omega), hc 2 (by omega), hc 3 (by omega), hc 4 (by omega)⟩
theorem sights_of_own {w : World} {base : Nat} {v : Value} {ss : List Sight} (h : w.ownsRow base 60 5 v ss.length (scells ss ss.length)) (hi : ∀ i, i < ss.length → SI64 (snth ss i)) : SightsAt w.heap.size w v ss := by
  rcases h.2 with ⟨rfl, h0⟩ | ⟨g, cap, cur, rfl, _, hg, hn, hm, _⟩
  · exact ⟨none, 0, 0, 0, by rw [h0], by omega, by unfold maxLen; omega, fun h => by omega, fun i hi => by omega, fun i hi => by omega⟩
  · refine ⟨_, cap, g, 0, rfl, hn, hm, fun _ => ⟨rfl, heap_lt hg⟩, fun i hi' => ?_, hi⟩
    have hc : ∀ r, r < 5 → w.cell? ⟨g, i * 5 + r, none⟩ = some (scell (snth ss i) r) := fun r hr => (h.cellAt _ (by omega)).trans (scells_at ss hi' hr)
    rw [Nat.zero_add]
    exact ⟨hc 0 (by omega), hc 1 (by omega), hc 2 (by omega), hc 3 (by omega), hc 4 (by omega)⟩

end Go.Proofs.Ytgjikoebneiamaa
