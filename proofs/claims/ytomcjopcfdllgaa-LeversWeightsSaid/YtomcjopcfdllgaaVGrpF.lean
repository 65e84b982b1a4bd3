/-
  Levers: what a group's value holds, in plain numbers.
-/
import Derived.Test.YtomcjopcfdllgaaVGroupsM

namespace Go.Proofs.Ytomcjopcfdllgaa
open Go.RowKit

def nine (x0 x1 x2 l y0 y1 y2 : Int) (n : Nat) : Array Value := #[.int .i64 x0, .int .i64 x1, .int .i64 x2, .int .i64 l, .int .i64 y0, .int .i64 y1, .int .i64 y2, .int .i64 l, .int .i64 (n : Nat)]
/-- The cells of a group. -/
def grpC (M : Mach) (lev : Nat) (g : Grp) : Array Value :=
  nine (armOf lev g.arm (pairAt (shortOf M.levers ((lev + 1) % 3)) (shortOf M.levers ((lev + 2) % 3)) g.i) 0) (armOf lev g.arm (pairAt (shortOf M.levers ((lev + 1) % 3)) (shortOf M.levers ((lev + 2) % 3)) g.i) 1) (armOf lev g.arm (pairAt (shortOf M.levers ((lev + 1) % 3)) (shortOf M.levers ((lev + 2) % 3)) g.i) 2) g.leak
    (armOf lev g.arm (pairAt (shortOf M.levers ((lev + 1) % 3)) (shortOf M.levers ((lev + 2) % 3)) g.j) 0) (armOf lev g.arm (pairAt (shortOf M.levers ((lev + 1) % 3)) (shortOf M.levers ((lev + 2) % 3)) g.j) 1) (armOf lev g.arm (pairAt (shortOf M.levers ((lev + 1) % 3)) (shortOf M.levers ((lev + 2) % 3)) g.j) 2) g.many
theorem grpV_eq (M : Mach) (lev : Nat) (g : Grp) : grpV M lev g = .agg (grpC M lev g) := rfl
theorem grp_form {M : Mach} (hV : ValidM M) {lev : Nat} (hl : lev < 3) {g : Grp} (hg : g ∈ grpL M lev) : ∃ x0 x1 x2 y0 y1 y2 : Int, grpC M lev g = nine x0 x1 x2 g.leak y0 y1 y2 g.many ∧
    ((1 ≤ x0 ∧ x0 ≤ 1000) ∧ (1 ≤ x1 ∧ x1 ≤ 1000) ∧ (1 ≤ x2 ∧ x2 ≤ 1000)) ∧ ((1 ≤ y0 ∧ y0 ≤ 1000) ∧ (1 ≤ y1 ∧ y1 ≤ 1000) ∧ (1 ≤ y2 ∧ y2 ≤ 1000)) ∧ x0 * x1 * x2 = g.lo M lev ∧ y0 * y1 * y2 = g.hi M lev ∧ 0 ≤ g.leak ∧ g.leak ≤ 20 := by
  have hok := grp_ok hV hg
  have hB := (short_ok hV ((lev + 1) % 3)).1
  have hD := (short_ok hV ((lev + 2) % 3)).1
  obtain ⟨q, hq, rfl, hp, _⟩ := way_pair hB hD hok.wi
  obtain ⟨r, hr, rfl, hr2, _⟩ := way_pair hB hD hok.wj
  have hlk := hV.leak
  have hlk2 := hok.leak
  refine ⟨_, _, _, _, _, _, rfl, ⟨armOf_in hV hl hok.arm hq 0, armOf_in hV hl hok.arm hq 1, armOf_in hV hl hok.arm hq 2⟩, ⟨armOf_in hV hl hok.arm hr 0, armOf_in hV hl hok.arm hr 1, armOf_in hV hl hok.arm hr 2⟩, ?_, ?_, by omega, by omega⟩
  · rw [armOf_prod hl, hp]; rfl
  · rw [armOf_prod hl, hr2]; rfl
theorem truthB_is (M : Mach) (leak P : Int) : truthB M leak P = decide ((wrongsP M leak P : Int) ≤ M.wrong) := rfl
end Go.Proofs.Ytomcjopcfdllgaa
