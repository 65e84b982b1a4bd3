/-
  Levers: a group of settings, as the program returns it.
-/
import Derived.Test.YtomcjopcfdllgaaVWork
import Derived.Test.YtomcjopcfdllgaaVVals

namespace Go.Proofs.Ytomcjopcfdllgaa
open Go.RowKit

theorem len_more {n : Nat} {vs : List Value} (h : vs.length = n + 1) : ∃ v t, vs = v :: t ∧ t.length = n := by
  cases vs with
  | nil => simp at h
  | cons v t => exact ⟨v, t, rfl, by simpa using h⟩
theorem used_map {α : Type} (f : Nat → Nat) (v : Nat → α) : ∀ n, usedL f v n = (usedL f id n).map v
  | 0 => rfl
  | n + 1 => by
    simp only [usedL]
    split
    · rw [used_map f v n, List.map_append]; rfl
    · exact used_map f v n
/-- The value of a group. -/
def grpV (M : Mach) (lev : Nat) (g : Grp) : Value :=
  .agg #[.int .i64 (armOf lev g.arm (pairAt (shortOf M.levers ((lev + 1) % 3)) (shortOf M.levers ((lev + 2) % 3)) g.i) 0), .int .i64 (armOf lev g.arm (pairAt (shortOf M.levers ((lev + 1) % 3)) (shortOf M.levers ((lev + 2) % 3)) g.i) 1), .int .i64 (armOf lev g.arm (pairAt (shortOf M.levers ((lev + 1) % 3)) (shortOf M.levers ((lev + 2) % 3)) g.i) 2), .int .i64 g.leak,
    .int .i64 (armOf lev g.arm (pairAt (shortOf M.levers ((lev + 1) % 3)) (shortOf M.levers ((lev + 2) % 3)) g.j) 0), .int .i64 (armOf lev g.arm (pairAt (shortOf M.levers ((lev + 1) % 3)) (shortOf M.levers ((lev + 2) % 3)) g.j) 1), .int .i64 (armOf lev g.arm (pairAt (shortOf M.levers ((lev + 1) % 3)) (shortOf M.levers ((lev + 2) % 3)) g.j) 2), .int .i64 g.leak,
    .int .i64 (g.many : Nat)]
def fromF (B D : Int × Int) (a : Int) (p : Int × Int) : Nat := posTo (wayN B D) (clampN B D (upD p.1 a))
def endF (B D : Int × Int) (a : Int) (p : Int × Int) : Nat := posTo (wayN B D) (clampN B D (p.2 / a + 1))
theorem ends_le (B D : Int × Int) (a : Int) (p : Int × Int) : fromF B D a p ≤ (armsOf B D).length ∧ endF B D a p ≤ (armsOf B D).length := by
  unfold armsOf fromF endF
  rw [used_len]
  exact ⟨posTo_mono (clamp_le _ _ _), posTo_mono (clamp_le _ _ _)⟩
theorem arms_at {B D : Int × Int} (i : Nat) (h : i < (armsOf B D).length) : (armsOf B D).getD i (0, 0) = pairAt B D (((usedL (wayN B D) id (roomN B D))[i]?).getD 0) := by
  unfold armsOf at h ⊢
  rw [used_map] at h ⊢
  rw [List.length_map] at h
  rw [List.getD_eq_getElem?_getD, List.getElem?_map, List.getElem?_eq_getElem h]
  rfl
/-- The ends and the number of a group that is not empty. -/
theorem group_vals {B D : Int × Int} (hB : 1 ≤ B.1) (hD : 1 ≤ D.1) {a : Int} (ha : 1 ≤ a) {p : Int × Int} :
    (0 < groupN B D a p ↔ fromF B D a p < endF B D a p) ∧ (0 < groupN B D a p → (armsOf B D).getD (fromF B D a p) (0, 0) = pairAt B D (firstI B D p a) ∧ (armsOf B D).getD (endF B D a p - 1) (0, 0) = pairAt B D (lastI B D p a) ∧
      nth (manyI B D) (endF B D a p) - nth (manyI B D) (fromF B D a p) = (groupN B D a p : Nat) ∧ endF B D a p < (manyI B D).length ∧ fromF B D a p < (manyI B D).length) := by
  obtain ⟨h1, h2⟩ := group_none hB hD ha (p := p)
  obtain ⟨h3, h4⟩ := ends_le B D a p
  refine ⟨h1, fun h => ?_⟩
  have h5 := h1.1 h
  have h6 : fromF B D a p < endF B D a p := h5
  have hml : (manyI B D).length = (armsOf B D).length + 1 := by unfold manyI armsOf; rw [List.length_map, many_len, used_len]
  have hat : ∀ n : Int, nth (manyI B D) (posTo (wayN B D) (clampN B D n)) = (sumTo (wayN B D) (clampN B D n) : Nat) := fun n => by
    have := many_at (wayN B D) (clamp_le B D n)
    rw [manyI, nth, List.getD_eq_getElem?_getD, List.getElem?_map, this]
    rfl
  refine ⟨?_, ?_, ?_, by omega, by omega⟩
  · rw [arms_at _ (by omega)]; rfl
  · rw [arms_at _ (by omega)]; rfl
  · have e1 := hat (p.2 / a + 1)
    have e2 := hat (upD p.1 a)
    have e3 := h2 h
    unfold endF fromF
    rw [e1, e2, e3]
    omega
theorem group_le {B D : Int × Int} (hB : 1 ≤ B.1 ∧ B.2 ≤ 1000) (hD : 1 ≤ D.1 ∧ D.2 ≤ 1000) (a : Int) (p : Int × Int) : groupN B D a p ≤ 1000000 := by
  unfold groupN
  exact Nat.le_trans (List.length_filter_le _ _) (pairs_le hB hD)
theorem room_le {B D : Int × Int} (hB : 1 ≤ B.1 ∧ B.1 ≤ B.2 ∧ B.2 ≤ 1000) (hD : 1 ≤ D.1 ∧ D.1 ≤ D.2 ∧ D.2 ≤ 1000) : roomN B D ≤ 1000000 ∧ 0 ≤ B.1 * D.1 ∧ B.1 * D.1 ≤ 1000000 := by
  have h1 : B.2 * D.2 ≤ 1000 * 1000 := mul_mono (by omega) (by omega) hB.2.2 hD.2.2
  have h2 : (1 : Int) * 1 ≤ B.1 * D.1 := mul_mono (by omega) (by omega) hB.1 hD.1
  have h3 : B.1 * D.1 ≤ B.2 * D.2 := mul_mono (by omega) (by omega) hB.2.1 hD.2.1
  unfold roomN
  omega
/-- A cell of arms. -/
theorem ArmsAt.at {B : Nat} {w : World} {v : Value} {ps : List (Int × Int)} (h : ArmsAt B w v ps) {i : Nat} (hi : i < ps.length) : ∃ b off cap, v = .slice (some ⟨b, off, none⟩) ps.length cap ∧ b < B ∧ w.cell? ⟨b, off + i * 2, none⟩ = some (.int .i64 (ps.getD i (0, 0)).1) ∧ w.cell? ⟨b, off + i * 2 + 1, none⟩ = some (.int .i64 (ps.getD i (0, 0)).2) := by
  obtain ⟨a, cap, b, off, rfl, hl, hm, ha, hc⟩ := h
  obtain ⟨rfl, hb⟩ := ha (by omega)
  exact ⟨b, off, cap, rfl, hb, hc i hi⟩
end Go.Proofs.Ytomcjopcfdllgaa
