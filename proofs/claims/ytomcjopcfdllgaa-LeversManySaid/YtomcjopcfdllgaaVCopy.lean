/-
  Levers, the reference's Copy: rows of levers and of balances, cell by cell.
  Levers, the law's reference: Copy: an equal machine in memory of the call's own.
-/
import Derived.Test.YtomcjopcfdllgaaVRef3
import Derived.Test.YtomcjopcfdllgaaVWeightsM
import Derived.Deep.RegionHeld3
import Derived.Deep.DrawnRows

namespace Go.Proofs.Ytomcjopcfdllgaa
open Go.RowKit Go.Shelf

theorem flat_len {α : Type} (f : α → List Value) (k : Nat) (hk : ∀ x, (f x).length = k) : ∀ l : List α, (l.flatMap f).length = l.length * k
  | [] => by simp
  | x :: l => by rw [List.flatMap_cons, List.length_append, hk, flat_len f k hk l, List.length_cons, Nat.add_mul]; omega
theorem flat_at {α : Type} (f : α → List Value) (k : Nat) (hk : ∀ x, (f x).length = k) : ∀ (l : List α) {i r : Nat} (hi : i < l.length) (_ : r < k), (l.flatMap f)[i * k + r]? = (f l[i])[r]?
  | x :: l, 0, r, _, hr => by
    rw [List.flatMap_cons, Nat.zero_mul, Nat.zero_add, List.getElem?_append_left (by rw [hk]; exact hr)]; rfl
  | x :: l, i + 1, r, hi, hr => by
    rw [List.flatMap_cons, show (i + 1) * k + r = (f x).length + (i * k + r) by rw [hk, Nat.add_mul]; omega, List.getElem?_append_right (by omega), Nat.add_sub_cancel_left, flat_at f k hk l (by simpa using hi) hr]; rfl
def lcell (l : Lev) : List Value := [.int .i64 l.long, .int .i64 l.lo, .int .i64 l.hi]
def bcell (b : Bal) : List Value := [.int .i64 b.weight, .int .i64 b.minutes, .int .i64 b.load, .int .i64 b.off]
def lcells (ls : List Lev) : List Value := ls.flatMap lcell
def bcells (bs : List Bal) : List Value := bs.flatMap bcell
theorem lcells_len (ls : List Lev) : (lcells ls).length = ls.length * 3 := flat_len _ 3 (fun _ => rfl) ls
theorem bcells_len (bs : List Bal) : (bcells bs).length = bs.length * 4 := flat_len _ 4 (fun _ => rfl) bs
theorem lcells_one (ls : List Lev) : ∀ u ∈ lcells ls, u.oneCell' = true := fun u hu => by
  obtain ⟨l, _, h⟩ := List.mem_flatMap.1 hu
  simp only [lcell, List.mem_cons, List.not_mem_nil, or_false] at h
  rcases h with rfl | rfl | rfl <;> rfl
theorem bcells_one (bs : List Bal) : ∀ u ∈ bcells bs, u.oneCell' = true := fun u hu => by
  obtain ⟨l, _, h⟩ := List.mem_flatMap.1 hu
  simp only [bcell, List.mem_cons, List.not_mem_nil, or_false] at h
  rcases h with rfl | rfl | rfl | rfl <;> rfl
theorem from_levs {B : Nat} {w : World} {a : Option Addr} {cap : Nat} {ls : List Lev} (h : LevsAt B w (.slice a ls.length cap) ls) : CellsFrom w a ls.length 3 (lcells ls) := by
  obtain ⟨a', cap', b, off, hv, hl, hm, ha, hc, hi⟩ := h
  injection hv with h1 h2 h3
  subst h1; subst h3
  refine ⟨lcells_len _, fun h0 => ⟨_, (ha h0).1, fun j u hu => ?_⟩⟩
  have hj : j < ls.length * 3 := by have := (List.getElem?_eq_some_iff.1 hu).1; rwa [lcells_len] at this
  have e : j = j / 3 * 3 + j % 3 := by omega
  have hr : j % 3 < 3 := Nat.mod_lt _ (by omega)
  have hq : j / 3 < ls.length := by omega
  have ht := hc (j / 3) hq
  rw [lnth_lt hq] at ht
  rw [e, lcells, flat_at _ 3 (fun _ => rfl) ls hq hr] at hu
  rw [e, add_plain0]
  generalize j / 3 = q at *
  generalize j % 3 = r at *
  have h3 : r = 0 ∨ r = 1 ∨ r = 2 := by omega
  rcases h3 with rfl | rfl | rfl
  · rw [← hu]; exact ht.1
  · rw [← hu]; exact ht.2.1
  · rw [← hu]; exact ht.2.2
theorem from_bals {B : Nat} {w : World} {a : Option Addr} {cap : Nat} {bs : List Bal} (h : BalsAt B w (.slice a bs.length cap) bs) : CellsFrom w a bs.length 4 (bcells bs) := by
  obtain ⟨a', cap', b, off, hv, hl, hm, ha, hc, hi⟩ := h
  injection hv with h1 h2 h3
  subst h1; subst h3
  refine ⟨bcells_len _, fun h0 => ⟨_, (ha h0).1, fun j u hu => ?_⟩⟩
  have hj : j < bs.length * 4 := by have := (List.getElem?_eq_some_iff.1 hu).1; rwa [bcells_len] at this
  have e : j = j / 4 * 4 + j % 4 := by omega
  have hr : j % 4 < 4 := Nat.mod_lt _ (by omega)
  have hq : j / 4 < bs.length := by omega
  have ht := hc (j / 4) hq
  rw [bnth_lt hq] at ht
  rw [e, bcells, flat_at _ 4 (fun _ => rfl) bs hq hr] at hu
  rw [e, add_plain0]
  generalize j / 4 = q at *
  generalize j % 4 = r at *
  have h3 : r = 0 ∨ r = 1 ∨ r = 2 ∨ r = 3 := by omega
  rcases h3 with rfl | rfl | rfl | rfl
  · rw [← hu]; exact ht.1
  · rw [← hu]; exact ht.2.1
  · rw [← hu]; exact ht.2.2.1
  · rw [← hu]; exact ht.2.2.2
theorem levs_of_own {w : World} {base : Nat} {v : Value} {ls : List Lev} (h : w.ownsRow base 63 3 v ls.length (lcells ls)) (hw : ∀ i, i < ls.length → LI64 (lnth ls i)) : LevsAt w.heap.size w v ls := by
  obtain ⟨_, ⟨rfl, h0⟩ | ⟨g, cap, cur, rfl, _, hg, hn, hm, hs, ht⟩⟩ := h
  · exact ⟨none, 0, 0, 0, by rw [h0], by omega, by unfold maxLen; omega, fun h => by omega, fun i hi => by omega, hw⟩
  · refine ⟨_, cap, g, 0, rfl, hn, hm, fun _ => ⟨rfl, (Array.getElem?_eq_some_iff.1 hg).1⟩, fun i hi => ?_, hw⟩
    have hat : ∀ r, r < 3 → w.cell? ⟨g, 0 + i * 3 + r, none⟩ = (lcell ls[i])[r]? := fun r hr => by
      have := flat_at lcell 3 (fun _ => rfl) ls hi hr
      rw [show ls.flatMap lcell = lcells ls from rfl, ← ht, List.getElem?_take_of_lt (by omega)] at this
      simp only [Nat.zero_add, World.cell?, hg, Option.isSome_none, Bool.false_eq_true, if_false]
      rw [Array.getElem?_toList] at this
      exact this
    rw [lnth_lt hi]
    exact ⟨hat 0 (by omega), hat 1 (by omega), hat 2 (by omega)⟩
theorem bals_of_own {w : World} {base : Nat} {v : Value} {bs : List Bal} (h : w.ownsRow base 51 4 v bs.length (bcells bs)) (hw : ∀ i, i < bs.length → BI64 (bnth bs i)) : BalsAt w.heap.size w v bs := by
  obtain ⟨_, ⟨rfl, h0⟩ | ⟨g, cap, cur, rfl, _, hg, hn, hm, hs, ht⟩⟩ := h
  · exact ⟨none, 0, 0, 0, by rw [h0], by omega, by unfold maxLen; omega, fun h => by omega, fun i hi => by omega, hw⟩
  · refine ⟨_, cap, g, 0, rfl, hn, hm, fun _ => ⟨rfl, (Array.getElem?_eq_some_iff.1 hg).1⟩, fun i hi => ?_, hw⟩
    have hat : ∀ r, r < 4 → w.cell? ⟨g, 0 + i * 4 + r, none⟩ = (bcell bs[i])[r]? := fun r hr => by
      have := flat_at bcell 4 (fun _ => rfl) bs hi hr
      rw [show bs.flatMap bcell = bcells bs from rfl, ← ht, List.getElem?_take_of_lt (by omega)] at this
      simp only [Nat.zero_add, World.cell?, hg, Option.isSome_none, Bool.false_eq_true, if_false]
      rw [Array.getElem?_toList] at this
      exact this
    rw [bnth_lt hi]
    exact ⟨hat 0 (by omega), hat 1 (by omega), hat 2 (by omega), hat 3 (by omega)⟩
end Go.Proofs.Ytomcjopcfdllgaa

namespace Go.Proofs.Ytomcjopcfdllgaa
open Go.RowKit Go.Shelf

attribute [local go_sem ↓] Go.wp_at_zero Go.wp_at_succ

theorem Try_infoLev : (Try.prog.info? 63).map (fun i => (i.zero, i.size, i.bytes)) = some (some (.agg #[.int .i64 0, .int .i64 0, .int .i64 0]), 3, 24) := by kernel_rfl
theorem Try_infoBal : (Try.prog.info? 51).map (fun i => (i.zero, i.size, i.bytes)) = some (some (.agg #[.int .i64 0, .int .i64 0, .int .i64 0, .int .i64 0]), 4, 32) := by kernel_rfl
theorem own_ne {w : World} {base : Nat} {e : TypeId} {size : Nat} {v : Value} {n : Nat} {xs : List Value} (h : w.ownsRow base e size v n xs) {b : Nat} (hb : w.heap.size ≤ b ∨ b < base) : v.ownBlock ≠ some b := fun he => by
  have := h.lt b he
  omega
theorem own_below {w w' : World} {base : Nat} {e : TypeId} {size : Nat} {v : Value} {n : Nat} {xs : List Value} (h : w.ownsRow base e size v n xs) (hb : Below w.heap.size w w') : w'.ownsRow base e size v n xs :=
  h.kept (row := none) ⟨hb.os, hb.tape, hb.output, hb.size, fun k hk _ => hb.block k hk⟩ (by cases hv : v.ownBlock <;> simp)
theorem own_base {w : World} {base base' : Nat} {e : TypeId} {size : Nat} {v : Value} {n : Nat} {xs : List Value} (h : w.ownsRow base e size v n xs) (hb : base' ≤ base) : w.ownsRow base' e size v n xs := by
  refine ⟨h.1, ?_⟩
  rcases h.2 with h0 | ⟨g, cap, cur, h1, h2, h3⟩
  · exact .inl h0
  · exact .inr ⟨g, cap, cur, h1, by omega, h3⟩
theorem own_set_other {w : World} {base : Nat} {e : TypeId} {size : Nat} {v : Value} {n : Nat} {xs : List Value} (h : w.ownsRow base e size v n xs) {a : Addr} (ha : a.block < base) (u : Value) : (w.setCell a u).ownsRow base e size v n xs := ownsRow_setCell_below h ha u
theorem cell_alloc {w : World} {o : Obj} {b off : Nat} {v : Value} (h : w.cell? ⟨b, off, none⟩ = some v) (hl : b < w.heap.size) : (w.alloc o).cell? ⟨b, off, none⟩ = some v :=
  (World.cell?_of_block (w := w) (a := ⟨b, off, none⟩) (Below.heap_alloc w o b hl)).trans h
theorem frozen_alloc {w : World} {o : Obj} {b off : Nat} (h : w.frozen? ⟨b, off, none⟩ = false) (hl : b < w.heap.size) : (w.alloc o).frozen? ⟨b, off, none⟩ = false :=
  (World.frozen?_of_block (w := w) (a := ⟨b, off, none⟩) (Below.heap_alloc w o b hl)).trans h
theorem own_empty {w : World} {base g : Nat} {e : TypeId} (h : w.heap[g]? = some (.cells #[] e)) (hb : base ≤ g) (size : Nat) : w.ownsRow base e size (.slice (some ⟨g, 0, none⟩) 0 0) 0 [] :=
  ⟨by simp, .inr ⟨g, 0, #[], rfl, hb, h, Nat.zero_le _, by unfold maxLen; omega, by simp, by simp⟩⟩
theorem heap_new_set (w : World) (p : Addr) (u : Value) (o : Obj) : ((w.setCell p u).alloc o).heap[w.heap.size]? = some o := by
  have := heap_new (w.setCell p u) o
  rwa [size_setCell] at this
theorem gb1 {W w1 : World} {o : Obj} {row : Option Nat} (hg : (W.alloc o).drew.grownBy w1 row) (hr : row = some W.heap.size) : Below W.heap.size W w1 := by
  subst hr
  exact ((Below.refl _ W).alloc (Nat.le_refl _) o).drew.grown hg (by have := World.size_alloc W o; show W.heap.size ≤ (W.alloc o).heap.size; omega) (fun k e => by injection e with e; omega)
theorem gb2 {W w1 : World} {o o' : Obj} {row : Option Nat} {g : Nat} (hg : ((W.alloc o).alloc o').drew.grownBy w1 row) (hr : row = some g) (hgl : W.heap.size ≤ g) : Below W.heap.size W w1 := by
  subst hr
  exact (((Below.refl _ W).alloc (Nat.le_refl _) o).alloc (by simp) o').drew.grown hg (by show W.heap.size ≤ ((W.alloc o).alloc o').heap.size; simp; omega) (fun k e => by injection e with e; omega)
theorem two_below {B : Nat} {w w' : World} {t : Nat} {v0 v1 : Value} (h : w.cell? ⟨t, 0, none⟩ = some v0 ∧ w.cell? ⟨t, 4, none⟩ = some v1) (hb : Below B w w') (l : t < B) : w'.cell? ⟨t, 0, none⟩ = some v0 ∧ w'.cell? ⟨t, 4, none⟩ = some v1 :=
  ⟨(hb.cell (p := ⟨t, 0, none⟩) l).trans h.1, (hb.cell (p := ⟨t, 4, none⟩) l).trans h.2⟩
theorem gb3 {B : Nat} {W w1 w2 : World} {row : Option Nat} {g : Nat} (hb : Below B W w1) (hg : w1.grownBy w2 row) (hr : row = some g) (hgl : B ≤ g) (hB : B ≤ w1.heap.size) : Below B W w2 := by
  subst hr
  exact hb.grown hg hB (fun k e => by injection e with e; omega)
theorem gb4 {B : Nat} {W w1 w2 : World} {o : Obj} {row : Option Nat} {g : Nat} (hb : Below B W w1) (hg : (w1.alloc o).grownBy w2 row) (hr : row = some g) (hgl : B ≤ g) (hB : B ≤ w1.heap.size) : Below B W w2 := by
  subst hr
  exact (hb.alloc hB o).grown hg (by simp; omega) (fun k e => by injection e with e; omega)
/-- Rows of elements of two types are never one. -/
theorem own_kept_type {w w' : World} {base base' : Nat} {e e' : TypeId} {size size' : Nat} {v v' : Value} {n n' : Nat} {xs xs' : List Value} (h : w.ownsRow base e size v n xs) (h' : w.ownsRow base' e' size' v' n' xs') (hne : e ≠ e') (hg : w.grownBy w' v'.ownBlock) : w'.ownsRow base e size v n xs := by
  refine h.kept hg ?_
  rcases h.2 with ⟨rfl, _⟩ | ⟨g, cap, cur, rfl, _, hh, _⟩
  · exact .inl rfl
  · rcases h'.2 with ⟨rfl, _⟩ | ⟨g', cap', cur', rfl, _, hh', _⟩
    · exact .inr (by simp [Value.ownBlock])
    · refine .inr (fun he => ?_)
      have : g = g' := by simpa [Value.ownBlock] using he
      subst this
      rw [hh] at hh'
      injection hh' with hh'
      injection hh' with _ ht
      exact hne ht
theorem done7 {W Y w2 : World} {g p n : Nat} {v v0 v1 v2 v3 v4 v5 : Value} {xs : List Value} (hb : Below W.heap.size W Y) (hY : Y.ownsRow W.heap.size 63 3 v n xs) (hE : Y.heap[g]? = some (.cells #[] 51)) (hg : W.heap.size ≤ g) (hB : W.heap.size ≤ Y.heap.size)
    (hgrow : Y.grownBy w2 (Value.slice (some ⟨g, 0, none⟩) 0 0).ownBlock) (hE2 : W.heap[p]? = some (.cells #[v0, v1, v2, v3, v4, v5] 27)) (hp : p < W.heap.size) :
    Below W.heap.size W w2 ∧ w2.ownsRow W.heap.size 63 3 v n xs ∧ w2.cell? ⟨p, 0, none⟩ = some v0 ∧ w2.cell? ⟨p, 1, none⟩ = some v1 ∧ w2.cell? ⟨p, 2, none⟩ = some v2 ∧ w2.cell? ⟨p, 3, none⟩ = some v3 ∧ w2.cell? ⟨p, 4, none⟩ = some v4 ∧ w2.cell? ⟨p, 5, none⟩ = some v5 ∧ w2.frozen? ⟨p, 0, none⟩ = false ∧ w2.frozen? ⟨p, 4, none⟩ = false := by
  have hb2 := gb3 hb hgrow rfl hg hB
  have hbl := (hb2.block _ hp).trans hE2
  obtain ⟨t0, t1, t2, t3, t4, t5⟩ := cells6 hbl
  exact ⟨hb2, own_kept_type hY (own_empty hE hg 4) (by decide) hgrow, t0, t1, t2, t3, t4, t5, froz hbl 0, froz hbl 4⟩
theorem keepS1 {W w1 : World} (hg : ((W.alloc (.cells #[] 63)).alloc (.cells #[] 51)).drew.grownBy w1 (Value.slice (some ⟨W.heap.size, 0, none⟩) 0 0).ownBlock) : w1.heap[W.heap.size + 1]? = some (.cells #[] 51) :=
  (hg.block (W.heap.size + 1) (show W.heap.size + 1 < ((W.alloc _).alloc _).heap.size by simp) (by simp [Value.ownBlock])).trans (heap_new1 W _ _)
theorem keepS2 {W w1 : World} (hg : ((W.alloc (.cells #[] 51)).alloc (.cells #[] 63)).drew.grownBy w1 (Value.slice (some ⟨W.heap.size + 1, 0, none⟩) 0 0).ownBlock) : w1.heap[W.heap.size]? = some (.cells #[] 51) :=
  (hg.block W.heap.size (show W.heap.size < ((W.alloc _).alloc _).heap.size by simp; omega) (by simp [Value.ownBlock])).trans (heap_old1 W _ _)
theorem own8 {w : World} {base p q : Nat} {e : TypeId} {size : Nat} {v : Value} {n : Nat} {xs : List Value} {u0 u1 z0 z1 z2 z3 z4 z5 : Value} (h : w.ownsRow base e size v n xs) (hp : p < base) (hq : q < base) :
    ((((((((w.setCell ⟨p, 0, none⟩ u0).setCell ⟨p, 4, none⟩ u1).setCell ⟨q, 0, none⟩ z0).setCell ⟨q, 1, none⟩ z1).setCell ⟨q, 2, none⟩ z2).setCell ⟨q, 3, none⟩ z3).setCell ⟨q, 4, none⟩ z4).setCell ⟨q, 5, none⟩ z5).ownsRow base e size v n xs :=
  own_set_other (own_set_other (own_set_other (own_set_other (own_set_other (own_set_other (own_set_other (own_set_other h hp _) hp _) hq _) hq _) hq _) hq _) hq _) hq _
/-- What the two loads read, in every world of the statement. -/
theorem two_alloc {w : World} {t : Nat} {v0 v1 : Value} (h : w.cell? ⟨t, 0, none⟩ = some v0 ∧ w.cell? ⟨t, 4, none⟩ = some v1) (l : t < w.heap.size) (o : Obj) : (w.alloc o).cell? ⟨t, 0, none⟩ = some v0 ∧ (w.alloc o).cell? ⟨t, 4, none⟩ = some v1 :=
  ⟨cell_alloc h.1 l, cell_alloc h.2 l⟩
theorem two_grown {w w' : World} {row : Option Nat} {t : Nat} {v0 v1 : Value} (h : w.cell? ⟨t, 0, none⟩ = some v0 ∧ w.cell? ⟨t, 4, none⟩ = some v1) (l : t < w.heap.size) (hg : w.grownBy w' row) (n : row ≠ some t) : w'.cell? ⟨t, 0, none⟩ = some v0 ∧ w'.cell? ⟨t, 4, none⟩ = some v1 :=
  ⟨(hg.cell_far ⟨t, 0, none⟩ l (Ne.symm n)).trans h.1, (hg.cell_far ⟨t, 4, none⟩ l (Ne.symm n)).trans h.2⟩
theorem two_set {w : World} {t : Nat} {v0 v1 : Value} (h : w.cell? ⟨t, 0, none⟩ = some v0 ∧ w.cell? ⟨t, 4, none⟩ = some v1) (p : Addr) (u : Value) (n : p.block ≠ t) : (w.setCell p u).cell? ⟨t, 0, none⟩ = some v0 ∧ (w.setCell p u).cell? ⟨t, 4, none⟩ = some v1 :=
  ⟨(World.cell?_setCell_far w p ⟨t, 0, none⟩ u n).trans h.1, (World.cell?_setCell_far w p ⟨t, 4, none⟩ u n).trans h.2⟩

set_option maxRecDepth 100000 in
set_option maxHeartbeats 4000000 in
theorem Copy_own (v : Value) (M : Mach) (w : World) (hx : MachAt w.heap.size w v M) (hd : M.levers.length ≤ 40) (hs : M.bals.length ≤ 40) :
    Calls Try.prog 30 #[v] w fun e w' => ∃ lv bv, e = .returned (.agg #[lv, .int .i64 M.water, .int .i64 M.lkLo, .int .i64 M.lkHi, bv, .int .i64 M.wrong]) ∧ w'.ownsRow w.heap.size 63 3 lv M.levers.length (lcells M.levers) ∧ w'.ownsRow w.heap.size 51 4 bv M.bals.length (bcells M.bals) ∧ Below w.heap.size w w' := by
  obtain ⟨iB, hiB, hzB0, hzB1, hzB2⟩ := info_parts Try_infoLev
  obtain ⟨iP, hiP, hzP0, hzP1, hzP2⟩ := info_parts Try_infoBal
  obtain ⟨lv, bv, rfl, hL, hS, hw⟩ := hx
  have hL' := hL
  have hS' := hS
  obtain ⟨a, cap, b, off, rfl, _, _, _, _, hwl⟩ := hL'
  obtain ⟨a2, cap2, b2, off2, rfl, _, _, _, _, hwb⟩ := hS'
  have HSD := Lib.hid (show ∀ W, Below w.heap.size w W → CellsFrom W a M.levers.length 3 (lcells M.levers) from fun W h => from_levs (hL.below h))
  have HSS := Lib.hid (show ∀ W, Below w.heap.size w W → CellsFrom W a2 M.bals.length 4 (bcells M.bals) from fun W h => from_bals (hS.below h))
  clear hL hS hwl hwb hw
  go_enter Try.func30, Try.ntmps30
  go_wp2_with fail
  obtain ⟨W, hW⟩ : ∃ W, W = ((w.alloc (.cells #[.slice a M.levers.length cap, .int .i64 M.water, .int .i64 M.lkLo, .int .i64 M.lkHi, .slice a2 M.bals.length cap2, .int .i64 M.wrong] 27)).alloc (.cells #[.slice none 0 0, .int .i64 0, .int .i64 0, .int .i64 0, .slice none 0 0, .int .i64 0] 27)).alloc (.cells #[.slice a M.levers.length cap, .int .i64 M.water, .int .i64 M.lkLo, .int .i64 M.lkHi, .slice a2 M.bals.length cap2, .int .i64 M.wrong] 27) := ⟨_, rfl⟩
  have h3 := heap3w w (.cells #[.slice a M.levers.length cap, .int .i64 M.water, .int .i64 M.lkLo, .int .i64 M.lkHi, .slice a2 M.bals.length cap2, .int .i64 M.wrong] 27) (.cells #[.slice none 0 0, .int .i64 0, .int .i64 0, .int .i64 0, .slice none 0 0, .int .i64 0] 27) (.cells #[.slice a M.levers.length cap, .int .i64 M.water, .int .i64 M.lkLo, .int .i64 M.lkHi, .slice a2 M.bals.length cap2, .int .i64 M.wrong] 27)
  rw [← hW] at h3 ⊢
  clear hW
  obtain ⟨e0, e1, e2, hb, hsz⟩ := h3
  have HB := Lib.hid hb
  have c0 : W.cell? ⟨w.heap.size, 0, none⟩ = some (.slice a M.levers.length cap) ∧ W.cell? ⟨w.heap.size, 4, none⟩ = some (.slice a2 M.bals.length cap2) := ⟨(cells6 e0).1, (cells6 e0).2.2.2.2.1⟩
  have E1 := Lib.hid e1
  have E2 := Lib.hid e2
  have HSZ := Lib.hid hsz
  have hlt0 : w.heap.size + 1 + 1 < W.heap.size := by omega
  have hltw : w.heap.size ≤ W.heap.size := by omega
  have KEEP1 := Lib.hid (two_alloc c0 (by omega) (.cells #[] 63))
  have KEEP2 := Lib.hid (two_alloc c0 (by omega) (.cells #[] 51))
  have x0 := (cells6 e2).1
  have xf0 := froz e2 0
  have xf4 := froz e2 4
  clear e0 e1 e2 hb hsz
  go_region_held3 (fun w' => w'.cell? ⟨w.heap.size, 0, none⟩ = some (.slice a M.levers.length cap) ∧ w'.cell? ⟨w.heap.size, 4, none⟩ = some (.slice a2 M.bals.length cap2))
    (first
      | exact c0
      | exact KEEP1.out
      | exact KEEP2.out
      | (refine two_alloc ?_ ?_ _ <;> (first | assumption | omega | (simp; omega)))
      | exact two_below c0 hb2 (by omega)
      | exact two_below c0 hb1 (by omega)
      | (refine two_set ?_ _ _ ?_ <;> (first | assumption | omega | (simp; omega))))
    (first
      | ((refine step_onto (base := W.heap.size) (v := .slice (some ⟨W.heap.size, 0, none⟩) 0 0) (n := 0) (xs := []) (A := a) (m := M.levers.length) (c := cap) (news := lcells M.levers) (by rfl) (.tmp 5) (.tmp 7) (by rfl) Try.underlying22 hiB hzB0 hzB1 hzB2 rfl (by decide) (by rfl) (own_empty (heap_new W _) (Nat.le_refl _) _) (by rfl) (HSD.out _ (HB.out.alloc (by omega) _).drew) (lcells_one _) (by unfold maxLen; omega) (by omega) (show W.heap.size ≤ (W.alloc _).heap.size by simp) ?_
          intro dA dcap w1 hown1 hgrow1 hat1
          have hb1 := gb1 hgrow1 rfl
          have hown1 : w1.ownsRow W.heap.size 63 3 (.slice dA M.levers.length dcap) M.levers.length (lcells M.levers) := (by simpa using hown1)
          have hl1 : W.heap.size ≤ w1.heap.size := hb1.size
          have hbw1 : Below w.heap.size w w1 := HB.out.trans (hb1.mono hltw)))
      | ((refine step_onto (base := W.heap.size) (v := .slice (some ⟨W.heap.size, 0, none⟩) 0 0) (n := 0) (xs := []) (A := a) (m := M.levers.length) (c := cap) (news := lcells M.levers) (by rfl) (.tmp 5) (.tmp 7) (by rfl) Try.underlying22 hiB hzB0 hzB1 hzB2 rfl (by decide) (by rfl) (own_empty (heap_old1 W _ _) (Nat.le_refl _) _) (by rfl) (HSD.out _ ((HB.out.alloc (by omega) _).alloc (by simp; omega) _).drew) (lcells_one _) (by unfold maxLen; omega) (by omega) (show W.heap.size ≤ ((W.alloc _).alloc _).heap.size by simp; omega) ?_
          intro dA dcap w1 hown1 hgrow1 hat1
          have hb1 := gb2 hgrow1 rfl (Nat.le_refl _)
          have hown1 : w1.ownsRow W.heap.size 63 3 (.slice dA M.levers.length dcap) M.levers.length (lcells M.levers) := (by simpa using hown1)
          have hl1 : W.heap.size ≤ w1.heap.size := hb1.size
          have hbw1 : Below w.heap.size w w1 := HB.out.trans (hb1.mono hltw)
          have KS := keepS1 hgrow1))
      | ((refine step_onto (base := W.heap.size) (v := .slice (some ⟨W.heap.size + 1, 0, none⟩) 0 0) (n := 0) (xs := []) (A := a) (m := M.levers.length) (c := cap) (news := lcells M.levers) (by rfl) (.tmp 5) (.tmp 7) (by rfl) Try.underlying22 hiB hzB0 hzB1 hzB2 rfl (by decide) (by rfl) (own_empty (heap_new1 W _ _) (Nat.le_succ _) _) (by rfl) (HSD.out _ ((HB.out.alloc (by omega) _).alloc (by simp; omega) _).drew) (lcells_one _) (by unfold maxLen; omega) (by omega) (show W.heap.size ≤ ((W.alloc _).alloc _).heap.size by simp; omega) ?_
          intro dA dcap w1 hown1 hgrow1 hat1
          have hb1 := gb2 hgrow1 rfl (Nat.le_succ _)
          have hown1 : w1.ownsRow W.heap.size 63 3 (.slice dA M.levers.length dcap) M.levers.length (lcells M.levers) := (by simpa using hown1)
          have hl1 : W.heap.size ≤ w1.heap.size := hb1.size
          have hbw1 : Below w.heap.size w w1 := HB.out.trans (hb1.mono hltw)
          have KS := keepS2 hgrow1))
      | ((refine step_onto (base := W.heap.size) (v := .slice (some ⟨w1.heap.size, 0, none⟩) 0 0) (n := 0) (xs := []) (A := a2) (m := M.bals.length) (c := cap2) (news := bcells M.bals) (by rfl) (.tmp 9) (.tmp 11) (by rfl) Try.underlying25 hiP hzP0 hzP1 hzP2 rfl (by decide) (by rfl) (own_empty (heap_new w1 _) hl1 _) (by rfl) (HSS.out _ (hbw1.alloc (Nat.le_trans hltw hl1) _)) (bcells_one _) (by unfold maxLen; omega) (by omega) (show W.heap.size ≤ (w1.alloc _).heap.size by simp; omega) ?_
          intro sA scap w2 hown2 hgrow2 hat2
          have hown2 : w2.ownsRow W.heap.size 51 4 (.slice sA M.bals.length scap) M.bals.length (bcells M.bals) := (by simpa using hown2)
          obtain ⟨hb2, hd2, t0, t1, t2, t3, t4, t5, tf0, tf4⟩ := done7 (hb1.alloc hl1 _) (hown1.alloc _) (heap_new w1 _) hl1 (by simp; omega) hgrow2 E2.out hlt0))
      | ((refine step_onto (base := W.heap.size) (v := .slice (some ⟨W.heap.size + 1, 0, none⟩) 0 0) (n := 0) (xs := []) (A := a2) (m := M.bals.length) (c := cap2) (news := bcells M.bals) (by rfl) (.tmp 9) (.tmp 11) (by rfl) Try.underlying25 hiP hzP0 hzP1 hzP2 rfl (by decide) (by rfl) (own_empty KS (Nat.le_succ _) _) (by rfl) (HSS.out _ hbw1) (bcells_one _) (by unfold maxLen; omega) (by omega) (hl1) ?_
          intro sA scap w2 hown2 hgrow2 hat2
          have hown2 : w2.ownsRow W.heap.size 51 4 (.slice sA M.bals.length scap) M.bals.length (bcells M.bals) := (by simpa using hown2)
          obtain ⟨hb2, hd2, t0, t1, t2, t3, t4, t5, tf0, tf4⟩ := done7 hb1 hown1 KS (Nat.le_succ _) hl1 hgrow2 E2.out hlt0))
      | ((refine step_onto (base := W.heap.size) (v := .slice (some ⟨W.heap.size, 0, none⟩) 0 0) (n := 0) (xs := []) (A := a2) (m := M.bals.length) (c := cap2) (news := bcells M.bals) (by rfl) (.tmp 9) (.tmp 11) (by rfl) Try.underlying25 hiP hzP0 hzP1 hzP2 rfl (by decide) (by rfl) (own_empty KS (Nat.le_refl _) _) (by rfl) (HSS.out _ hbw1) (bcells_one _) (by unfold maxLen; omega) (by omega) (hl1) ?_
          intro sA scap w2 hown2 hgrow2 hat2
          have hown2 : w2.ownsRow W.heap.size 51 4 (.slice sA M.bals.length scap) M.bals.length (bcells M.bals) := (by simpa using hown2)
          obtain ⟨hb2, hd2, t0, t1, t2, t3, t4, t5, tf0, tf4⟩ := done7 hb1 hown1 KS (Nat.le_refl _) hl1 hgrow2 E2.out hlt0)))
  all_goals
    clear KEEP1 KEEP2
    have hz := (hb2.block (w.heap.size + 1) (by omega)).trans E1.out
    obtain ⟨z0, z1, z2, z3, z4, z5⟩ := cells6 hz
    have zf0 := froz hz 0
    have zf1 := froz hz 1
    have zf2 := froz hz 2
    have zf3 := froz hz 3
    have zf4 := froz hz 4
    have zf5 := froz hz 5
    have HB2 := Lib.hid hb2
    have HD2 := Lib.hid hd2
    have HO2 := Lib.hid hown2
    clear hz hb2 hd2 hown2
    go_wp2
    refine bodyPost_ret (v := .agg #[.slice dA M.levers.length dcap, .int .i64 M.water, .int .i64 M.lkLo, .int .i64 M.lkHi, .slice sA M.bals.length scap, .int .i64 M.wrong]) (by simp [results, Try.results30, go_sem, z0, z1, z2, z3, z4, z5]) rfl ⟨_, _, rfl, ?_, ?_, ?_⟩
    · exact own_base (own8 HD2.out (by omega) (by omega)) hltw
    · exact own_base (own8 HO2.out (by omega) (by omega)) hltw
    · exact below_setCell (below_setCell (below_setCell (below_setCell (below_setCell (below_setCell (below_setCell (below_setCell (HB.out.trans (HB2.out.mono hltw)) (by omega)) (by omega)) (by omega)) (by omega)) (by omega)) (by omega)) (by omega)) (by omega)
theorem Copy_any (v : Value) (M : Mach) (w : World) (hx : MachAt w.heap.size w v M) (hd : M.levers.length ≤ 40) (hs : M.bals.length ≤ 40) :
    Calls Try.prog 30 #[v] w fun e w' => ∃ lv bv, e = .returned (.agg #[lv, .int .i64 M.water, .int .i64 M.lkLo, .int .i64 M.lkHi, bv, .int .i64 M.wrong]) ∧ LevsAt w'.heap.size w' lv M.levers ∧ BalsAt w'.heap.size w' bv M.bals ∧ Below w.heap.size w w' := by
  have hx' := hx
  obtain ⟨lv, bv, rfl, hL, hS, hw⟩ := hx
  obtain ⟨_, _, _, _, _, _, _, _, _, hwl⟩ := hL
  obtain ⟨_, _, _, _, _, _, _, _, _, hwb⟩ := hS
  refine (Copy_own _ M w hx' hd hs).mono ?_
  rintro e w' ⟨l, b, h1, h2, h3, h4⟩
  exact ⟨l, b, h1, levs_of_own h2 hwl, bals_of_own h3 hwb, h4⟩
end Go.Proofs.Ytomcjopcfdllgaa
