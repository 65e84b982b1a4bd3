/-
  Levers: the groups in the order in which they are yielded.
  Levers: what a group's value holds, in plain numbers.
-/
import Derived.Test.YtomcjopcfdllgaaVAlike
import Derived.Test.YtomcjopcfdllgaaVGroup
import Derived.Test.YtomcjopcfdllgaaVFactsI
import Derived.Test.YtomcjopcfdllgaaVFactsK

namespace Go.Proofs.Ytomcjopcfdllgaa
open Go.RowKit

theorem range_len (lo hi : Int) : (rangeL lo hi).length = (hi - lo + 1).toNat := by simp [rangeL]
theorem range_at {lo hi : Int} {i : Nat} (h : i < (rangeL lo hi).length) : (rangeL lo hi)[i] = lo + i := by simp [rangeL]
theorem filter_map_flat {α β : Type} (p : α → Bool) (f : α → β) : ∀ l : List α, (l.filter p).map f = l.flatMap (fun a => if p a = true then [f a] else [])
  | [] => rfl
  | a :: l => by
    rw [List.filter_cons, List.flatMap_cons, ← filter_map_flat p f l]
    split <;> simp
theorem take_flat {α β : Type} (f : α → List β) {l : List α} {i : Nat} (h : i < l.length) : (l.take (i + 1)).flatMap f = (l.take i).flatMap f ++ f l[i] := by
  rw [List.take_succ_eq_append_getElem h, List.flatMap_append]
  simp
theorem pre_flat {α β : Type} (f : α → List β) {l : List α} {i : Nat} (h : i < l.length) {q : List β} (hq : q <+: f l[i]) : (l.take i).flatMap f ++ q <+: l.flatMap f := by
  obtain ⟨r, hr⟩ := hq
  refine ⟨r ++ (l.drop (i + 1)).flatMap f, ?_⟩
  have h1 : l.flatMap f = (l.take (i + 1)).flatMap f ++ (l.drop (i + 1)).flatMap f := by rw [← List.flatMap_append, List.take_append_drop]
  rw [h1, take_flat f h, ← hr]
  simp
theorem pre_flat' {α β : Type} (f : α → List β) {l : List α} {i : Nat} {x : α} (h : l[i]? = some x) {q : List β} (hq : q <+: f x) : (l.take i).flatMap f ++ q <+: l.flatMap f := by
  obtain ⟨hi, he⟩ := List.getElem?_eq_some_iff.1 h
  exact pre_flat f hi (by rw [he]; exact hq)
theorem range_get {lo hi : Int} {i : Nat} (h : i < (rangeL lo hi).length) : (rangeL lo hi)[i]? = some (lo + i) := by rw [List.getElem?_eq_getElem h, range_at h]
/-- The groups of one arm, within one span. -/
def g1 (M : Mach) (lev : Nat) (k : Int) (p : Int × Int) (a : Int) : List Grp :=
  if 0 < groupN (shortOf M.levers ((lev + 1) % 3)) (shortOf M.levers ((lev + 2) % 3)) a p then [grpAt (shortOf M.levers ((lev + 1) % 3)) (shortOf M.levers ((lev + 2) % 3)) k p a] else []
def arms (M : Mach) (lev : Nat) : List Int := rangeL (shortOf M.levers lev).1 (shortOf M.levers lev).2
def leaks (M : Mach) : List Int := rangeL M.lkLo M.lkHi
def g2 (M : Mach) (lev : Nat) (k : Int) (p : Int × Int) : List Grp := (arms M lev).flatMap (g1 M lev k p)
def g3 (M : Mach) (lev : Nat) (k : Int) : List Grp := (alikeL M k).flatMap (g2 M lev k)
def G3 (M : Mach) (lev : Nat) (k : Int) (p : Int × Int) (t : Nat) : List Grp := ((arms M lev).take t).flatMap (g1 M lev k p)
def G2 (M : Mach) (lev : Nat) (k : Int) (j : Nat) : List Grp := ((alikeL M k).take j).flatMap (g2 M lev k)
def G1 (M : Mach) (lev : Nat) (i : Nat) : List Grp := ((leaks M).take i).flatMap (g3 M lev)
theorem grpL_eq (M : Mach) (lev : Nat) : grpL M lev = (leaks M).flatMap (g3 M lev) := by
  unfold grpL
  congr 1
  funext k
  show _ = (alikeL M k).flatMap (g2 M lev k)
  congr 1
  funext p
  rw [filter_map_flat]
  show _ = (arms M lev).flatMap (g1 M lev k p)
  congr 1
  funext a
  simp only [g1, decide_eq_true_eq]
def armsN (M : Mach) (lev : Nat) : Nat := (arms M lev).length
def leaksN (M : Mach) : Nat := (leaks M).length
def spanAt (M : Mach) (k : Int) (j : Nat) : Int × Int := (alikeL M k).getD j (0, 0)
theorem G3_succ {M : Mach} {lev : Nat} {k : Int} {p : Int × Int} {t : Nat} (h : t < armsN M lev) : G3 M lev k p (t + 1) = G3 M lev k p t ++ g1 M lev k p ((shortOf M.levers lev).1 + t) := by
  have := take_flat (g1 M lev k p) h
  rw [G3, this]
  simp only [arms, range_at]
  rfl
theorem G3_all (M : Mach) (lev : Nat) (k : Int) (p : Int × Int) : G3 M lev k p (armsN M lev) = g2 M lev k p := by rw [G3, armsN, List.take_length]; rfl
theorem G2_succ {M : Mach} {lev : Nat} {k : Int} {j : Nat} (h : j < (alikeL M k).length) : G2 M lev k (j + 1) = G2 M lev k j ++ G3 M lev k (spanAt M k j) (armsN M lev) := by
  rw [G3_all, G2, take_flat _ h, spanAt, List.getD_eq_getElem?_getD, List.getElem?_eq_getElem h]; rfl
theorem G2_all (M : Mach) (lev : Nat) (k : Int) : G2 M lev k (alikeL M k).length = g3 M lev k := by rw [G2, List.take_length]; rfl
theorem G1_succ {M : Mach} {lev : Nat} {i : Nat} (h : i < leaksN M) : G1 M lev (i + 1) = G1 M lev i ++ G2 M lev (M.lkLo + i) (alikeL M (M.lkLo + i)).length := by
  have := take_flat (g3 M lev) h
  rw [G2_all, G1, this]
  simp only [leaks, range_at]
  rfl
theorem G1_all (M : Mach) (lev : Nat) : G1 M lev (leaksN M) = grpL M lev := by rw [G1, leaksN, List.take_length, grpL_eq]
theorem G_pre {M : Mach} {lev : Nat} {i j t : Nat} (hi : i < leaksN M) (hj : j < (alikeL M (M.lkLo + i)).length) (ht : t < armsN M lev) :
    G1 M lev i ++ (G2 M lev (M.lkLo + i) j ++ (G3 M lev (M.lkLo + i) (spanAt M (M.lkLo + i) j) t ++ g1 M lev (M.lkLo + i) (spanAt M (M.lkLo + i) j) ((shortOf M.levers lev).1 + t))) <+: grpL M lev := by
  rw [grpL_eq]
  refine pre_flat' (g3 M lev) (range_get hi) ?_
  refine pre_flat' (g2 M lev _) (x := spanAt M (M.lkLo + i) j) (by rw [spanAt, List.getD_eq_getElem?_getD, List.getElem?_eq_getElem hj]; rfl) ?_
  exact pre_flat' (g1 M lev _ _) (range_get ht) (List.prefix_refl _)
theorem arms_in {M : Mach} {lev : Nat} {t : Nat} (ht : t < armsN M lev) : (shortOf M.levers lev).1 ≤ (shortOf M.levers lev).1 + t ∧ (shortOf M.levers lev).1 + t ≤ (shortOf M.levers lev).2 := by
  have h := range_len (shortOf M.levers lev).1 (shortOf M.levers lev).2
  have h1 : t < (rangeL (shortOf M.levers lev).1 (shortOf M.levers lev).2).length := ht
  omega
theorem arms_out {M : Mach} {lev : Nat} {t : Nat} (ht : ¬ t < armsN M lev) : ¬ (shortOf M.levers lev).1 + t ≤ (shortOf M.levers lev).2 := by
  have h := range_len (shortOf M.levers lev).1 (shortOf M.levers lev).2
  have h1 : ¬ t < (rangeL (shortOf M.levers lev).1 (shortOf M.levers lev).2).length := ht
  omega
theorem leaks_in {M : Mach} {t : Nat} (ht : t < leaksN M) : M.lkLo + t ≤ M.lkHi := by
  have h := range_len M.lkLo M.lkHi
  have h1 : t < (rangeL M.lkLo M.lkHi).length := ht
  omega
theorem leaks_out {M : Mach} {t : Nat} (ht : ¬ t < leaksN M) : ¬ M.lkLo + t ≤ M.lkHi := by
  have h := range_len M.lkLo M.lkHi
  have h1 : ¬ t < (rangeL M.lkLo M.lkHi).length := ht
  omega
theorem span_in {M : Mach} (hV : ValidM M) {k : Int} {j : Nat} (h : j < (alikeL M k).length) : 1 ≤ (spanAt M k j).1 ∧ (spanAt M k j).1 ≤ (spanAt M k j).2 ∧ (spanAt M k j).2 ≤ 1000000000 := by
  have hm : spanAt M k j ∈ alikeL M k := by rw [spanAt, List.getD_eq_getElem?_getD, List.getElem?_eq_getElem h]; exact List.getElem_mem h
  obtain ⟨h1, h2, h3⟩ := spans_in hm
  have h4 := low_pos hV
  have h5 : highP M ≤ 1000000000 := by
    have h0 := short_ok hV 0
    have h1 := short_ok hV 1
    have h2 := short_ok hV 2
    have h4 : (shortOf M.levers 1).2 * (shortOf M.levers 2).2 ≤ 1000 * 1000 := mul_mono (by omega) (by omega) (by omega) (by omega)
    have h5 : 0 ≤ (shortOf M.levers 1).2 * (shortOf M.levers 2).2 := Int.mul_nonneg (by omega) (by omega)
    have h6 : highP M ≤ 1000 * (1000 * 1000) := mul_mono (by omega) h5 (by omega) h4
    omega
  omega
/-- Where the short arms of lever lev lie. -/
theorem short_cells {w : World} {b : Nat} {lv bv av mv sv : Value} {M : Mach} {s0 s1 s2 : Int × Int} {long l0 o0 o1 least : Int} {t : TypeId} (e : w.heap[b]? = some (.cells (wArr lv M bv s0 s1 s2 long l0 o0 o1 av mv least sv) t)) {lev : Nat} (hl : lev < 3) {s : Int × Int} (hs : s = if lev = 0 then s0 else if lev = 1 then s1 else s2) :
    w.cell? ⟨b, 6 + lev * 2, none⟩ = some (.int .i64 s.1) ∧ w.cell? ⟨b, 6 + lev * 2 + 1, none⟩ = some (.int .i64 s.2) := by
  obtain ⟨_, ⟨c0, c1, c2, c3, c4, c5⟩, _⟩ := cells20 e
  have : lev = 0 ∨ lev = 1 ∨ lev = 2 := by omega
  rcases this with rfl | rfl | rfl <;> subst hs
  · exact ⟨c0, c1⟩
  · exact ⟨c2, c3⟩
  · exact ⟨c4, c5⟩
end Go.Proofs.Ytomcjopcfdllgaa

namespace Go.Proofs.Ytomcjopcfdllgaa
open Go.RowKit

def nine (x0 x1 x2 l y0 y1 y2 : Int) (n : Nat) : Array Value := #[.int .i64 x0, .int .i64 x1, .int .i64 x2, .int .i64 l, .int .i64 y0, .int .i64 y1, .int .i64 y2, .int .i64 l, .int .i64 (n : Nat)]
/-- The cells of a group. -/
def grpC (M : Mach) (lev : Nat) (g : Grp) : Array Value :=
  nine (armOf lev g.arm (pairAt (shortOf M.levers ((lev + 1) % 3)) (shortOf M.levers ((lev + 2) % 3)) g.i) 0) (armOf lev g.arm (pairAt (shortOf M.levers ((lev + 1) % 3)) (shortOf M.levers ((lev + 2) % 3)) g.i) 1) (armOf lev g.arm (pairAt (shortOf M.levers ((lev + 1) % 3)) (shortOf M.levers ((lev + 2) % 3)) g.i) 2) g.leak
    (armOf lev g.arm (pairAt (shortOf M.levers ((lev + 1) % 3)) (shortOf M.levers ((lev + 2) % 3)) g.j) 0) (armOf lev g.arm (pairAt (shortOf M.levers ((lev + 1) % 3)) (shortOf M.levers ((lev + 2) % 3)) g.j) 1) (armOf lev g.arm (pairAt (shortOf M.levers ((lev + 1) % 3)) (shortOf M.levers ((lev + 2) % 3)) g.j) 2) g.many
theorem grpV_eq (M : Mach) (lev : Nat) (g : Grp) : grpV M lev g = .agg (grpC M lev g) := rfl
theorem grp_form {M : Mach} (hV : ValidM M) {lev : Nat} (hl : lev < 3) {g : Grp} (hg : g ∈ grpL M lev) : ∃ x0 x1 x2 y0 y1 y2 : Int, grpC M lev g = nine x0 x1 x2 g.leak y0 y1 y2 g.many ∧
    ((1 ≤ x0 ∧ x0 ≤ 1000) ∧ (1 ≤ x1 ∧ x1 ≤ 1000) ∧ (1 ≤ x2 ∧ x2 ≤ 1000)) ∧ ((1 ≤ y0 ∧ y0 ≤ 1000) ∧ (1 ≤ y1 ∧ y1 ≤ 1000) ∧ (1 ≤ y2 ∧ y2 ≤ 1000)) ∧ x0 * x1 * x2 = g.lo M lev ∧ y0 * y1 * y2 = g.hi M lev ∧ 0 ≤ g.leak ∧ g.leak ≤ 20 := by
  have hok := grp_ok hV hg
  have hB := (short_ok hV ((lev + 1) % 3)).1
  have hD := (short_ok hV ((lev + 2) % 3)).1
  obtain ⟨q, hq, rfl, hp, _⟩ := way_pair hB hD hok.wi
  obtain ⟨r, hr, rfl, hr2, _⟩ := way_pair hB hD hok.wj
  have hlk := hV.leak
  have hlk2 := hok.leak
  refine ⟨_, _, _, _, _, _, rfl, ⟨armOf_in hV hl hok.arm hq 0, armOf_in hV hl hok.arm hq 1, armOf_in hV hl hok.arm hq 2⟩, ⟨armOf_in hV hl hok.arm hr 0, armOf_in hV hl hok.arm hr 1, armOf_in hV hl hok.arm hr 2⟩, ?_, ?_, by omega, by omega⟩
  · rw [armOf_prod hl, hp]; rfl
  · rw [armOf_prod hl, hr2]; rfl
theorem truthB_is (M : Mach) (leak P : Int) : truthB M leak P = decide ((wrongsP M leak P : Int) ≤ M.wrong) := rfl
end Go.Proofs.Ytomcjopcfdllgaa
