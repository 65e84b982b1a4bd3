/-
  Levers: the bounds of the load, by groups and by truths.
-/
import Derived.Test.YtomcjopcfdllgaaVWeightM

namespace Go.Proofs.Ytomcjopcfdllgaa
open Go.RowKit

theorem minI_fold : ∀ (l : List Int) (n : Int), l.foldl min n ≤ n ∧ (∀ x ∈ l, l.foldl min n ≤ x) ∧ (l.foldl min n = n ∨ l.foldl min n ∈ l)
  | [], n => ⟨Int.le_refl _, by simp, .inl rfl⟩
  | x :: l, n => by
    obtain ⟨h1, h2, h3⟩ := minI_fold l (min n x)
    rw [List.foldl_cons]
    refine ⟨by omega, fun y hy => ?_, ?_⟩
    · rcases List.mem_cons.1 hy with rfl | hy
      · omega
      · exact h2 y hy
    · rcases h3 with h3 | h3
      · by_cases e : n ≤ x
        · exact .inl (by omega)
        · exact .inr (by rw [h3, show min n x = x by omega]; simp)
      · exact .inr (List.mem_cons_of_mem _ h3)
theorem minI_eq {l m : List Int} {n : Int} (h1 : ∀ x ∈ l, ∃ y ∈ m, y ≤ x) (h2 : ∀ y ∈ m, ∃ x ∈ l, x ≤ y) : l.foldl min n = m.foldl min n := by
  obtain ⟨a1, a2, a3⟩ := minI_fold l n
  obtain ⟨b1, b2, b3⟩ := minI_fold m n
  have e1 : m.foldl min n ≤ l.foldl min n := by
    rcases a3 with a3 | a3
    · omega
    · obtain ⟨y, hy, hyx⟩ := h1 _ a3
      have := b2 y hy
      omega
  have e2 : l.foldl min n ≤ m.foldl min n := by
    rcases b3 with b3 | b3
    · omega
    · obtain ⟨x, hx, hxy⟩ := h2 _ b3
      have := a2 x hx
      omega
  omega
theorem maxI_fold : ∀ (l : List Int) (n : Int), n ≤ l.foldl max n ∧ (∀ x ∈ l, x ≤ l.foldl max n) ∧ (l.foldl max n = n ∨ l.foldl max n ∈ l)
  | [], n => ⟨Int.le_refl _, by simp, .inl rfl⟩
  | x :: l, n => by
    obtain ⟨h1, h2, h3⟩ := maxI_fold l (max n x)
    rw [List.foldl_cons]
    refine ⟨by omega, fun y hy => ?_, ?_⟩
    · rcases List.mem_cons.1 hy with rfl | hy
      · omega
      · exact h2 y hy
    · rcases h3 with h3 | h3
      · by_cases e : x ≤ n
        · exact .inl (by omega)
        · exact .inr (by rw [h3, show max n x = x by omega]; simp)
      · exact .inr (List.mem_cons_of_mem _ h3)
theorem maxI_eq {l m : List Int} {n : Int} (h1 : ∀ x ∈ l, ∃ y ∈ m, x ≤ y) (h2 : ∀ y ∈ m, ∃ x ∈ l, y ≤ x) : l.foldl max n = m.foldl max n := by
  obtain ⟨a1, a2, a3⟩ := maxI_fold l n
  obtain ⟨b1, b2, b3⟩ := maxI_fold m n
  have e1 : l.foldl max n ≤ m.foldl max n := by
    rcases a3 with a3 | a3
    · omega
    · obtain ⟨y, hy, hyx⟩ := h1 _ a3
      have := b2 y hy
      omega
  have e2 : m.foldl max n ≤ l.foldl max n := by
    rcases b3 with b3 | b3
    · omega
    · obtain ⟨x, hx, hxy⟩ := h2 _ b3
      have := a2 x hx
      omega
  omega
/-- The least, and the greatest load, of all truths. -/
def loadLo (M : Mach) (weight minutes : Int) : Int := ((truthsM M).map (fun s => force M weight minutes s.2 / prodL s.1)).foldl min 9223372036854775807
def loadHi (M : Mach) (weight minutes : Int) : Int := ((truthsM M).map (fun s => upD (force M weight minutes s.2) (prodL s.1))).foldl max (-1)
/-- The same of some groups. -/
def gLo (M : Mach) (weight minutes : Int) (l : List Grp) : Int := (l.map (fun g => force M weight minutes g.leak / g.hi M 0)).foldl min 9223372036854775807
def gHi (M : Mach) (weight minutes : Int) (l : List Grp) : Int := (l.map (fun g => upD (force M weight minutes g.leak) (g.lo M 0))).foldl max (-1)
theorem gLo_snoc (M : Mach) (weight minutes : Int) (l : List Grp) (g : Grp) : gLo M weight minutes (l ++ [g]) = min (gLo M weight minutes l) (force M weight minutes g.leak / g.hi M 0) := by simp [gLo]
theorem gHi_snoc (M : Mach) (weight minutes : Int) (l : List Grp) (g : Grp) : gHi M weight minutes (l ++ [g]) = max (gHi M weight minutes l) (upD (force M weight minutes g.leak) (g.lo M 0)) := by simp [gHi]
theorem gLo_all {M : Mach} (hV : ValidM M) {weight minutes : Int} (hw : 0 ≤ weight ∧ weight ≤ 9999) (hm : 0 ≤ minutes) : gLo M weight minutes (grpT M 0) = loadLo M weight minutes := by
  obtain ⟨h1, h2⟩ := load_ends hV (lev := 0) (by decide) hw hm
  refine minI_eq (fun x hx => ?_) (fun y hy => ?_)
  · obtain ⟨g, hg, rfl⟩ := List.mem_map.1 hx
    obtain ⟨⟨s, hs, e⟩, _⟩ := h2 g hg
    exact ⟨_, List.mem_map.2 ⟨s, hs, rfl⟩, Int.le_of_eq e⟩
  · obtain ⟨s, hs, rfl⟩ := List.mem_map.1 hy
    obtain ⟨g, hg, e, _⟩ := h1 s hs
    exact ⟨_, List.mem_map.2 ⟨g, hg, rfl⟩, e⟩
theorem gHi_all {M : Mach} (hV : ValidM M) {weight minutes : Int} (hw : 0 ≤ weight ∧ weight ≤ 9999) (hm : 0 ≤ minutes) : gHi M weight minutes (grpT M 0) = loadHi M weight minutes := by
  obtain ⟨h1, h2⟩ := load_ends hV (lev := 0) (by decide) hw hm
  refine maxI_eq (fun x hx => ?_) (fun y hy => ?_)
  · obtain ⟨g, hg, rfl⟩ := List.mem_map.1 hx
    obtain ⟨_, s, hs, e⟩ := h2 g hg
    exact ⟨_, List.mem_map.2 ⟨s, hs, rfl⟩, Int.le_of_eq e.symm⟩
  · obtain ⟨s, hs, rfl⟩ := List.mem_map.1 hy
    obtain ⟨g, hg, _, e⟩ := h1 s hs
    exact ⟨_, List.mem_map.2 ⟨g, hg, rfl⟩, e⟩
theorem lo_ok {M : Mach} (hV : ValidM M) {g : Grp} (hg : g ∈ grpL M 0) : 1 ≤ g.lo M 0 ∧ g.lo M 0 ≤ 1000000000 ∧ 1 ≤ g.hi M 0 ∧ g.hi M 0 ≤ 1000000000 := by
  obtain ⟨x0, x1, x2, y0, y1, y2, _, ⟨a0, a1, a2⟩, ⟨c0, c1, c2⟩, h1, h2, _⟩ := grp_form hV (by decide) hg
  have p : ∀ {a b c : Int}, 1 ≤ a ∧ a ≤ 1000 → 1 ≤ b ∧ b ≤ 1000 → 1 ≤ c ∧ c ≤ 1000 → 1 ≤ a * b * c ∧ a * b * c ≤ 1000000000 := fun {a b c} ha hb hc => by
    have e1 : 1 * 1 ≤ a * b := mul_mono (by omega) (by omega) ha.1 hb.1
    have e2 : a * b ≤ 1000 * 1000 := mul_mono (by omega) (by omega) ha.2 hb.2
    have e3 : 1 * 1 ≤ a * b * c := mul_mono (by omega) (by omega) (by omega) hc.1
    have e4 : a * b * c ≤ 1000000 * 1000 := mul_mono (by omega) (by omega) (by omega) hc.2
    omega
  have h3 := p a0 a1 a2
  have h4 := p c0 c1 c2
  omega
theorem gLo_ok (M : Mach) (hV : ValidM M) {weight minutes : Int} (hw : 0 ≤ weight ∧ weight ≤ 9999) (hm : 0 ≤ minutes) (l : List Grp) (hl : ∀ g ∈ l, g ∈ grpL M 0) : 0 ≤ gLo M weight minutes l ∧ gLo M weight minutes l ≤ 9223372036854775807 := by
  obtain ⟨h1, _, h3⟩ := minI_fold (l.map (fun g => force M weight minutes g.leak / g.hi M 0)) 9223372036854775807
  refine ⟨?_, h1⟩
  show 0 ≤ List.foldl _ _ _
  rcases h3 with h3 | h3
  · omega
  · obtain ⟨g, hg, e⟩ := List.mem_map.1 h3
    have h4 := lo_ok hV (hl g hg)
    have h5 := (grp_ok hV (hl g hg)).leak
    have h6 := hV.leak
    have h7 := (force_ok hV hw hm (leak := g.leak) (by omega)).1
    have h8 : 0 ≤ force M weight minutes g.leak / g.hi M 0 := Int.ediv_nonneg h7 (by omega)
    rw [← e]; exact h8
theorem gHi_ok (M : Mach) (hV : ValidM M) {weight minutes : Int} (hw : 0 ≤ weight ∧ weight ≤ 9999) (hm : 0 ≤ minutes) (l : List Grp) (hl : ∀ g ∈ l, g ∈ grpL M 0) : -1 ≤ gHi M weight minutes l ∧ gHi M weight minutes l ≤ 1000000000000000 ∧ (l ≠ [] → 0 ≤ gHi M weight minutes l) := by
  obtain ⟨h1, h2, h3⟩ := maxI_fold (l.map (fun g => upD (force M weight minutes g.leak) (g.lo M 0))) (-1)
  have hb : ∀ g ∈ l, 0 ≤ upD (force M weight minutes g.leak) (g.lo M 0) ∧ upD (force M weight minutes g.leak) (g.lo M 0) ≤ 1000000000000000 := fun g hg => by
    have h4 := lo_ok hV (hl g hg)
    have h5 := (grp_ok hV (hl g hg)).leak
    have h6 := hV.leak
    have h7 := force_ok hV hw hm (leak := g.leak) (by omega)
    refine ⟨Int.ediv_nonneg (by omega) (by omega), ?_⟩
    have : upD (force M weight minutes g.leak) (g.lo M 0) ≤ force M weight minutes g.leak + g.lo M 0 - 1 := Int.ediv_le_self _ (by omega)
    omega
  refine ⟨h1, ?_, fun hne => ?_⟩
  · show List.foldl _ _ _ ≤ _
    rcases h3 with h3 | h3
    · omega
    · obtain ⟨g, hg, e⟩ := List.mem_map.1 h3
      rw [← e]; exact (hb g hg).2
  · obtain ⟨g, hg⟩ := List.exists_mem_of_ne_nil _ hne
    have := h2 _ (List.mem_map.2 ⟨g, hg, rfl⟩)
    have := (hb g hg).1
    show 0 ≤ List.foldl _ _ _
    omega
end Go.Proofs.Ytomcjopcfdllgaa
