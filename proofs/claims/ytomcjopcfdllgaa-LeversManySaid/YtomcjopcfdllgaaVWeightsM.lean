/-
  Levers: the least weight, and the last minute, at which all truths pull.
  Levers: the bounds of the load, by groups and by truths.
  Levers, the theorem of more weight: the math.
-/
import Derived.Test.YtomcjopcfdllgaaVMany
import Derived.Test.YtomcjopcfdllgaaVWork

namespace Go.Proofs.Ytomcjopcfdllgaa
open Go.RowKit

theorem force_up {M : Mach} (hV : ValidM M) {u v minutes leak : Int} (h : u ≤ v) : force M u minutes leak ≤ force M v minutes leak := by
  have hl := (long_take hV M.levers.length).1
  rw [List.take_length] at hl
  unfold force
  exact Int.mul_le_mul_of_nonneg_right (by omega) hl
theorem force_down {M : Mach} (hV : ValidM M) {u v weight leak : Int} (h : u ≤ v) (hk : 0 ≤ leak) : force M weight v leak ≤ force M weight u leak := by
  have hl := (long_take hV M.levers.length).1
  rw [List.take_length] at hl
  have h1 : u * leak ≤ v * leak := Int.mul_le_mul_of_nonneg_right h hk
  unfold force
  exact Int.mul_le_mul_of_nonneg_right (by omega) hl
theorem pulls_up {M : Mach} (hV : ValidM M) {u v minutes load leak P : Int} (h : u ≤ v) (hp : pullsB M u minutes load leak P = true) : pullsB M v minutes load leak P = true := by
  simp only [pullsB, decide_eq_true_eq] at hp ⊢
  have := force_up hV (minutes := minutes) (leak := leak) h
  omega
theorem pulls_down {M : Mach} (hV : ValidM M) {u v weight load leak P : Int} (h : u ≤ v) (hk : 0 ≤ leak) (hp : pullsB M weight v load leak P = true) : pullsB M weight u load leak P = true := by
  simp only [pullsB, decide_eq_true_eq] at hp ⊢
  have := force_down hV (weight := weight) h hk
  omega
theorem askB_iff {a b c d : Int} : askB a b c d = true ↔ (0 ≤ a ∧ a ≤ 9999) ∧ (0 ≤ b ∧ b ≤ 99) ∧ (0 ≤ c ∧ c ≤ 999999999) ∧ 0 ≤ d ∧ d ≤ 999999999 := by
  simp only [askB, Bool.and_eq_true, wB_iff, and_assoc]
/-- All truths pull. -/
def allPull (M : Mach) (weight minutes load : Int) : Bool := (truthsM M).all fun s => pullsB M weight minutes load s.2 (prodL s.1)
theorem allPull_grp {M : Mach} (hV : ValidM M) {weight minutes load : Int} (hl : 0 ≤ load) : allPull M weight minutes load = (grpT M 0).all fun g => pullsB M weight minutes load g.leak (g.hi M 0) := by
  rw [Bool.eq_iff_iff]
  unfold allPull
  rw [List.all_eq_true, List.all_eq_true]
  exact pulls_all hV (by decide) hl
/-- The least weight from 0 to 9999 at which all truths pull, else 10000. -/
def leastW (M : Mach) (minutes load : Int) : Nat := ((List.range 10000).find? (fun v => allPull M (v : Nat) minutes load)).getD 10000
theorem find_least {p : Nat → Bool} {n v : Nat} (hv : v ≤ n) (h1 : ∀ u, u < v → p u = false) (h2 : v < n → p v = true) : ((List.range n).find? p).getD n = v := by
  by_cases h : v < n
  · have : (List.range n).find? p = some v := by
      rw [List.find?_eq_some_iff_getElem]
      refine ⟨h2 h, v, by simpa using h, by simp, fun j hj => ?_⟩
      simp [h1 j hj]
    rw [this]; rfl
  · have he : v = n := by omega
    subst he
    have : (List.range v).find? p = none := by
      rw [List.find?_eq_none]
      intro x hx
      simp [h1 x (List.mem_range.1 hx)]
    rw [this]; rfl
def pW (M : Mach) (minutes load : Int) (g : Grp) (v : Nat) : Bool := pullsB M (v : Nat) minutes load g.leak (g.hi M 0)
structure WInv (M : Mach) (minutes load : Int) (pre : List Grp) (v : Nat) : Prop where
  le : v ≤ 10000
  no : ∀ u, u < v → ∃ g ∈ pre, pW M minutes load g u = false
  yes : v < 10000 → ∀ g ∈ pre, pW M minutes load g v = true
theorem WInv.zero (M : Mach) (minutes load : Int) : WInv M minutes load [] 0 := ⟨by omega, fun u h => by omega, fun _ g h => by cases h⟩
theorem WInv.next {M : Mach} (hV : ValidM M) {minutes load : Int} {pre : List Grp} {v v' : Nat} {g : Grp} (h : WInv M minutes load pre v) (hv : v ≤ v') (hle : v' ≤ 10000) (hno : ∀ u, v ≤ u → u < v' → pW M minutes load g u = false) (hyes : v' < 10000 → pW M minutes load g v' = true) : WInv M minutes load (pre ++ [g]) v' := by
  refine ⟨hle, fun u hu => ?_, fun hlt x hx => ?_⟩
  · by_cases h1 : u < v
    · obtain ⟨x, hx, hp⟩ := h.no u h1
      exact ⟨x, List.mem_append_left _ hx, hp⟩
    · exact ⟨g, by simp, hno u (by omega) hu⟩
  · rcases List.mem_append.1 hx with hx | hx
    · exact pulls_up hV (by omega) (h.yes (by omega) x hx)
    · rw [List.mem_singleton.1 hx]; exact hyes hlt
theorem WInv.least {M : Mach} (hV : ValidM M) {minutes load : Int} (hl : 0 ≤ load) {v : Nat} (h : WInv M minutes load (grpT M 0) v) : leastW M minutes load = v := by
  refine find_least h.le (fun u hu => ?_) (fun hlt => ?_)
  · rw [allPull_grp hV hl]
    obtain ⟨g, hg, hp⟩ := h.no u hu
    exact List.all_eq_false.2 ⟨g, hg, by simp only [pW] at hp; simp [hp]⟩
  · rw [allPull_grp hV hl]
    exact List.all_eq_true.2 (h.yes hlt)
theorem grpT_none {M : Mach} (hV : ValidM M) {lev : Nat} (hl : lev < 3) : (grpT M lev).isEmpty = (truthsM M).isEmpty := by
  rw [Bool.eq_iff_iff, List.isEmpty_iff, List.isEmpty_iff]
  constructor
  · intro h
    refine List.eq_nil_iff_forall_not_mem.2 fun s hs => ?_
    obtain ⟨g, hg, _⟩ := truth_grp hV hl hs
    rw [h] at hg; cases hg
  · intro h
    refine List.eq_nil_iff_forall_not_mem.2 fun g hg => ?_
    obtain ⟨_, ⟨s, hs, _⟩, _⟩ := grp_truth hV hl hg
    rw [h] at hs; cases hs
end Go.Proofs.Ytomcjopcfdllgaa

namespace Go.Proofs.Ytomcjopcfdllgaa
open Go.RowKit

theorem minI_fold : ∀ (l : List Int) (n : Int), l.foldl min n ≤ n ∧ (∀ x ∈ l, l.foldl min n ≤ x) ∧ (l.foldl min n = n ∨ l.foldl min n ∈ l)
  | [], n => ⟨Int.le_refl _, by simp, .inl rfl⟩
  | x :: l, n => by
    obtain ⟨h1, h2, h3⟩ := minI_fold l (min n x)
    rw [List.foldl_cons]
    refine ⟨by omega, fun y hy => ?_, ?_⟩
    · rcases List.mem_cons.1 hy with rfl | hy
      · omega
      · exact h2 y hy
    · rcases h3 with h3 | h3
      · by_cases e : n ≤ x
        · exact .inl (by omega)
        · exact .inr (by rw [h3, show min n x = x by omega]; simp)
      · exact .inr (List.mem_cons_of_mem _ h3)
theorem minI_eq {l m : List Int} {n : Int} (h1 : ∀ x ∈ l, ∃ y ∈ m, y ≤ x) (h2 : ∀ y ∈ m, ∃ x ∈ l, x ≤ y) : l.foldl min n = m.foldl min n := by
  obtain ⟨a1, a2, a3⟩ := minI_fold l n
  obtain ⟨b1, b2, b3⟩ := minI_fold m n
  have e1 : m.foldl min n ≤ l.foldl min n := by
    rcases a3 with a3 | a3
    · omega
    · obtain ⟨y, hy, hyx⟩ := h1 _ a3
      have := b2 y hy
      omega
  have e2 : l.foldl min n ≤ m.foldl min n := by
    rcases b3 with b3 | b3
    · omega
    · obtain ⟨x, hx, hxy⟩ := h2 _ b3
      have := a2 x hx
      omega
  omega
theorem maxI_fold : ∀ (l : List Int) (n : Int), n ≤ l.foldl max n ∧ (∀ x ∈ l, x ≤ l.foldl max n) ∧ (l.foldl max n = n ∨ l.foldl max n ∈ l)
  | [], n => ⟨Int.le_refl _, by simp, .inl rfl⟩
  | x :: l, n => by
    obtain ⟨h1, h2, h3⟩ := maxI_fold l (max n x)
    rw [List.foldl_cons]
    refine ⟨by omega, fun y hy => ?_, ?_⟩
    · rcases List.mem_cons.1 hy with rfl | hy
      · omega
      · exact h2 y hy
    · rcases h3 with h3 | h3
      · by_cases e : x ≤ n
        · exact .inl (by omega)
        · exact .inr (by rw [h3, show max n x = x by omega]; simp)
      · exact .inr (List.mem_cons_of_mem _ h3)
theorem maxI_eq {l m : List Int} {n : Int} (h1 : ∀ x ∈ l, ∃ y ∈ m, x ≤ y) (h2 : ∀ y ∈ m, ∃ x ∈ l, y ≤ x) : l.foldl max n = m.foldl max n := by
  obtain ⟨a1, a2, a3⟩ := maxI_fold l n
  obtain ⟨b1, b2, b3⟩ := maxI_fold m n
  have e1 : l.foldl max n ≤ m.foldl max n := by
    rcases a3 with a3 | a3
    · omega
    · obtain ⟨y, hy, hyx⟩ := h1 _ a3
      have := b2 y hy
      omega
  have e2 : m.foldl max n ≤ l.foldl max n := by
    rcases b3 with b3 | b3
    · omega
    · obtain ⟨x, hx, hxy⟩ := h2 _ b3
      have := a2 x hx
      omega
  omega
/-- The least, and the greatest load, of all truths. -/
def loadLo (M : Mach) (weight minutes : Int) : Int := ((truthsM M).map (fun s => force M weight minutes s.2 / prodL s.1)).foldl min 9223372036854775807
def loadHi (M : Mach) (weight minutes : Int) : Int := ((truthsM M).map (fun s => upD (force M weight minutes s.2) (prodL s.1))).foldl max (-1)
/-- The same of some groups. -/
def gLo (M : Mach) (weight minutes : Int) (l : List Grp) : Int := (l.map (fun g => force M weight minutes g.leak / g.hi M 0)).foldl min 9223372036854775807
def gHi (M : Mach) (weight minutes : Int) (l : List Grp) : Int := (l.map (fun g => upD (force M weight minutes g.leak) (g.lo M 0))).foldl max (-1)
theorem gLo_snoc (M : Mach) (weight minutes : Int) (l : List Grp) (g : Grp) : gLo M weight minutes (l ++ [g]) = min (gLo M weight minutes l) (force M weight minutes g.leak / g.hi M 0) := by simp [gLo]
theorem gHi_snoc (M : Mach) (weight minutes : Int) (l : List Grp) (g : Grp) : gHi M weight minutes (l ++ [g]) = max (gHi M weight minutes l) (upD (force M weight minutes g.leak) (g.lo M 0)) := by simp [gHi]
theorem gLo_all {M : Mach} (hV : ValidM M) {weight minutes : Int} (hw : 0 ≤ weight ∧ weight ≤ 9999) (hm : 0 ≤ minutes) : gLo M weight minutes (grpT M 0) = loadLo M weight minutes := by
  obtain ⟨h1, h2⟩ := load_ends hV (lev := 0) (by decide) hw hm
  refine minI_eq (fun x hx => ?_) (fun y hy => ?_)
  · obtain ⟨g, hg, rfl⟩ := List.mem_map.1 hx
    obtain ⟨⟨s, hs, e⟩, _⟩ := h2 g hg
    exact ⟨_, List.mem_map.2 ⟨s, hs, rfl⟩, Int.le_of_eq e⟩
  · obtain ⟨s, hs, rfl⟩ := List.mem_map.1 hy
    obtain ⟨g, hg, e, _⟩ := h1 s hs
    exact ⟨_, List.mem_map.2 ⟨g, hg, rfl⟩, e⟩
theorem gHi_all {M : Mach} (hV : ValidM M) {weight minutes : Int} (hw : 0 ≤ weight ∧ weight ≤ 9999) (hm : 0 ≤ minutes) : gHi M weight minutes (grpT M 0) = loadHi M weight minutes := by
  obtain ⟨h1, h2⟩ := load_ends hV (lev := 0) (by decide) hw hm
  refine maxI_eq (fun x hx => ?_) (fun y hy => ?_)
  · obtain ⟨g, hg, rfl⟩ := List.mem_map.1 hx
    obtain ⟨_, s, hs, e⟩ := h2 g hg
    exact ⟨_, List.mem_map.2 ⟨s, hs, rfl⟩, Int.le_of_eq e.symm⟩
  · obtain ⟨s, hs, rfl⟩ := List.mem_map.1 hy
    obtain ⟨g, hg, _, e⟩ := h1 s hs
    exact ⟨_, List.mem_map.2 ⟨g, hg, rfl⟩, e⟩
theorem lo_ok {M : Mach} (hV : ValidM M) {g : Grp} (hg : g ∈ grpL M 0) : 1 ≤ g.lo M 0 ∧ g.lo M 0 ≤ 1000000000 ∧ 1 ≤ g.hi M 0 ∧ g.hi M 0 ≤ 1000000000 := by
  obtain ⟨x0, x1, x2, y0, y1, y2, _, ⟨a0, a1, a2⟩, ⟨c0, c1, c2⟩, h1, h2, _⟩ := grp_form hV (by decide) hg
  have p : ∀ {a b c : Int}, 1 ≤ a ∧ a ≤ 1000 → 1 ≤ b ∧ b ≤ 1000 → 1 ≤ c ∧ c ≤ 1000 → 1 ≤ a * b * c ∧ a * b * c ≤ 1000000000 := fun {a b c} ha hb hc => by
    have e1 : 1 * 1 ≤ a * b := mul_mono (by omega) (by omega) ha.1 hb.1
    have e2 : a * b ≤ 1000 * 1000 := mul_mono (by omega) (by omega) ha.2 hb.2
    have e3 : 1 * 1 ≤ a * b * c := mul_mono (by omega) (by omega) (by omega) hc.1
    have e4 : a * b * c ≤ 1000000 * 1000 := mul_mono (by omega) (by omega) (by omega) hc.2
    omega
  have h3 := p a0 a1 a2
  have h4 := p c0 c1 c2
  omega
theorem gLo_ok (M : Mach) (hV : ValidM M) {weight minutes : Int} (hw : 0 ≤ weight ∧ weight ≤ 9999) (hm : 0 ≤ minutes) (l : List Grp) (hl : ∀ g ∈ l, g ∈ grpL M 0) : 0 ≤ gLo M weight minutes l ∧ gLo M weight minutes l ≤ 9223372036854775807 := by
  obtain ⟨h1, _, h3⟩ := minI_fold (l.map (fun g => force M weight minutes g.leak / g.hi M 0)) 9223372036854775807
  refine ⟨?_, h1⟩
  show 0 ≤ List.foldl _ _ _
  rcases h3 with h3 | h3
  · omega
  · obtain ⟨g, hg, e⟩ := List.mem_map.1 h3
    have h4 := lo_ok hV (hl g hg)
    have h5 := (grp_ok hV (hl g hg)).leak
    have h6 := hV.leak
    have h7 := (force_ok hV hw hm (leak := g.leak) (by omega)).1
    have h8 : 0 ≤ force M weight minutes g.leak / g.hi M 0 := Int.ediv_nonneg h7 (by omega)
    rw [← e]; exact h8
theorem gHi_ok (M : Mach) (hV : ValidM M) {weight minutes : Int} (hw : 0 ≤ weight ∧ weight ≤ 9999) (hm : 0 ≤ minutes) (l : List Grp) (hl : ∀ g ∈ l, g ∈ grpL M 0) : -1 ≤ gHi M weight minutes l ∧ gHi M weight minutes l ≤ 1000000000000000 ∧ (l ≠ [] → 0 ≤ gHi M weight minutes l) := by
  obtain ⟨h1, h2, h3⟩ := maxI_fold (l.map (fun g => upD (force M weight minutes g.leak) (g.lo M 0))) (-1)
  have hb : ∀ g ∈ l, 0 ≤ upD (force M weight minutes g.leak) (g.lo M 0) ∧ upD (force M weight minutes g.leak) (g.lo M 0) ≤ 1000000000000000 := fun g hg => by
    have h4 := lo_ok hV (hl g hg)
    have h5 := (grp_ok hV (hl g hg)).leak
    have h6 := hV.leak
    have h7 := force_ok hV hw hm (leak := g.leak) (by omega)
    refine ⟨Int.ediv_nonneg (by omega) (by omega), ?_⟩
    have : upD (force M weight minutes g.leak) (g.lo M 0) ≤ force M weight minutes g.leak + g.lo M 0 - 1 := Int.ediv_le_self _ (by omega)
    omega
  refine ⟨h1, ?_, fun hne => ?_⟩
  · show List.foldl _ _ _ ≤ _
    rcases h3 with h3 | h3
    · omega
    · obtain ⟨g, hg, e⟩ := List.mem_map.1 h3
      rw [← e]; exact (hb g hg).2
  · obtain ⟨g, hg⟩ := List.exists_mem_of_ne_nil _ hne
    have := h2 _ (List.mem_map.2 ⟨g, hg, rfl⟩)
    have := (hb g hg).1
    show 0 ≤ List.foldl _ _ _
    omega
end Go.Proofs.Ytomcjopcfdllgaa

namespace Go.Proofs.Ytomcjopcfdllgaa

theorem minI_mono {α : Type} (f g : α → Int) (l : List α) (n : Int) (h : ∀ x ∈ l, f x ≤ g x) : (l.map f).foldl min n ≤ (l.map g).foldl min n := by
  obtain ⟨a1, a2, _⟩ := minI_fold (l.map f) n
  obtain ⟨_, _, b3⟩ := minI_fold (l.map g) n
  rcases b3 with b3 | b3
  · omega
  · obtain ⟨x, hx, e⟩ := List.mem_map.1 b3
    have h1 := a2 (f x) (List.mem_map.2 ⟨x, hx, rfl⟩)
    have h2 := h x hx
    omega
theorem maxI_mono {α : Type} (f g : α → Int) (l : List α) (n : Int) (h : ∀ x ∈ l, f x ≤ g x) : (l.map f).foldl max n ≤ (l.map g).foldl max n := by
  obtain ⟨a1, a2, _⟩ := maxI_fold (l.map g) n
  obtain ⟨_, _, b3⟩ := maxI_fold (l.map f) n
  rcases b3 with b3 | b3
  · omega
  · obtain ⟨x, hx, e⟩ := List.mem_map.1 b3
    have h1 := a2 (g x) (List.mem_map.2 ⟨x, hx, rfl⟩)
    have h2 := h x hx
    omega
theorem truth_ok {M : Mach} (hV : ValidM M) {s : List Int × Int} (hs : s ∈ truthsM M) : 1 ≤ prodL s.1 ∧ 0 ≤ s.2 ∧ s.2 ≤ 20 := by
  have h1 := prod_pos hV (mem_truths.1 hs).1
  have h2 := (mem_sets.1 (mem_truths.1 hs).1).2
  have h3 := hV.leak
  exact ⟨h1, by omega, by omega⟩
theorem upD_mono {m n b : Int} (hb : 0 < b) (h : m ≤ n) : upD m b ≤ upD n b := Int.ediv_le_ediv hb (by omega)
theorem floor_up {n b : Int} (hb : 0 < b) : n / b ≤ upD n b := by unfold upD; exact Int.ediv_le_ediv hb (by omega)
/-- With more weight or fewer minutes, no end of the load is less. -/
theorem load_mono {M : Mach} (hV : ValidM M) {x0 x1 y0 y1 : Int} (h0 : x0 ≤ y0) (h1 : y1 ≤ x1) : loadLo M x0 x1 ≤ loadLo M y0 y1 ∧ loadHi M x0 x1 ≤ loadHi M y0 y1 := by
  have hf : ∀ s ∈ truthsM M, force M x0 x1 s.2 ≤ force M y0 y1 s.2 := fun s hs => by
    have hk := truth_ok hV hs
    have e1 := force_up hV (minutes := x1) (leak := s.2) h0
    have e2 := force_down hV (weight := y0) h1 hk.2.1
    omega
  refine ⟨minI_mono _ _ _ _ (fun s hs => ?_), maxI_mono _ _ _ _ (fun s hs => ?_)⟩
  · exact Int.ediv_le_ediv (by have := truth_ok hV hs; omega) (hf s hs)
  · exact upD_mono (by have := truth_ok hV hs; omega) (hf s hs)
/-- The bounds are sane where there is a truth. -/
theorem load_sane {M : Mach} (hV : ValidM M) {w m : Int} (hw : 0 ≤ w ∧ w ≤ 9999) (hm : 0 ≤ m) (hne : truthsM M ≠ []) : 0 ≤ loadLo M w m ∧ loadLo M w m ≤ loadHi M w m ∧ loadHi M w m ≤ 1000000000000000 ∧ loadHi M w m < 1125899906842624 := by
  obtain ⟨s, hs⟩ := List.exists_mem_of_ne_nil _ hne
  have hp := truth_ok hV hs
  obtain ⟨_, a2, a3⟩ := minI_fold ((truthsM M).map (fun s => force M w m s.2 / prodL s.1)) 9223372036854775807
  obtain ⟨_, b2, _⟩ := maxI_fold ((truthsM M).map (fun s => upD (force M w m s.2) (prodL s.1))) (-1)
  have h1 := a2 _ (List.mem_map.2 ⟨s, hs, rfl⟩)
  have h2 := b2 _ (List.mem_map.2 ⟨s, hs, rfl⟩)
  have h3 := floor_up (n := force M w m s.2) (b := prodL s.1) (by omega)
  have h4 := (gHi_ok M hV hw hm (grpT M 0) (fun g hg => (List.mem_filter.1 hg).1)).2.1
  rw [gHi_all hV hw hm] at h4
  have h5 := (gLo_ok M hV hw hm (grpT M 0) (fun g hg => (List.mem_filter.1 hg).1)).1
  rw [gLo_all hV hw hm] at h5
  unfold loadLo loadHi at *
  omega
/-- The machine without water. -/
def dryM (M : Mach) : Mach := { M with water := 0 }
theorem dry_valid {M : Mach} (hV : ValidM M) : ValidM (dryM M) := ⟨hV.nl, hV.lev, (show (0 : Int) ≤ 0 ∧ (0 : Int) ≤ 9999 from by decide), hV.leak, hV.nb, hV.bal, hV.wrong⟩
theorem dry_force {M : Mach} {k w m leak : Int} (hm : 0 ≤ m) (hl : 0 ≤ leak) : force (dryM M) (k * w) m leak = k * force (dryM M) w m leak := by
  have h1 : 0 ≤ m * leak := Int.mul_nonneg hm hl
  have e : max ((dryM M).water - m * leak) 0 = 0 := by show max (0 - m * leak) 0 = 0; omega
  unfold force
  rw [e, Int.add_zero, Int.add_zero, Int.mul_assoc]
theorem floor_times {f p k : Int} (hp : 0 < p) (hk : 0 ≤ k) : k * (f / p) ≤ k * f / p := by
  rw [Int.le_ediv_iff_mul_le hp, Int.mul_assoc]
  exact Int.mul_le_mul_of_nonneg_left (Int.ediv_mul_le _ (by omega)) hk
theorem up_times {f p k : Int} (hp : 0 < p) (hk : 0 ≤ k) : upD (k * f) p ≤ k * upD f p := by
  rw [upD_le hp]
  have h := (upD_le (n := f) (P := upD f p) hp).1 (Int.le_refl _)
  have h2 := Int.mul_le_mul_of_nonneg_left h hk
  have e : p * (k * upD f p) = k * (p * upD f p) := by rw [← Int.mul_assoc, Int.mul_comm p k, Int.mul_assoc]
  omega
/-- Without water, k times the weight loads at least k times the least, at most k times the greatest. -/
theorem load_times {M : Mach} (hV : ValidM M) {k w m : Int} (hk : 1 ≤ k) (_hw : 0 ≤ w ∧ w ≤ 9999) (hkw : 0 ≤ k * w ∧ k * w ≤ 9999) (hm : 0 ≤ m) (hne : truthsM (dryM M) ≠ []) : k * loadLo (dryM M) w m ≤ loadLo (dryM M) (k * w) m ∧ loadHi (dryM M) (k * w) m ≤ k * loadHi (dryM M) w m := by
  have hD := dry_valid hV
  obtain ⟨a1, a2, a3⟩ := minI_fold ((truthsM (dryM M)).map (fun s => force (dryM M) w m s.2 / prodL s.1)) 9223372036854775807
  obtain ⟨b1, b2, b3⟩ := minI_fold ((truthsM (dryM M)).map (fun s => force (dryM M) (k * w) m s.2 / prodL s.1)) 9223372036854775807
  obtain ⟨c1, c2, c3⟩ := maxI_fold ((truthsM (dryM M)).map (fun s => upD (force (dryM M) w m s.2) (prodL s.1))) (-1)
  obtain ⟨d1, d2, d3⟩ := maxI_fold ((truthsM (dryM M)).map (fun s => upD (force (dryM M) (k * w) m s.2) (prodL s.1))) (-1)
  obtain ⟨s0, hs0⟩ := List.exists_mem_of_ne_nil _ hne
  have hp0 := truth_ok hD hs0
  have hf0 := force_ok hD hkw hm hp0.2.1
  constructor
  · rcases b3 with b3 | b3
    · have h1 := b2 _ (List.mem_map.2 ⟨s0, hs0, rfl⟩)
      have h2 : force (dryM M) (k * w) m s0.2 / prodL s0.1 ≤ force (dryM M) (k * w) m s0.2 := Int.ediv_le_self _ hf0.1
      rw [b3] at h1
      omega
    · obtain ⟨s, hs, e⟩ := List.mem_map.1 b3
      have hp := truth_ok hD hs
      have h1 := a2 _ (List.mem_map.2 ⟨s, hs, rfl⟩)
      have h2 := Int.mul_le_mul_of_nonneg_left h1 (show 0 ≤ k by omega)
      have h3 := floor_times (f := force (dryM M) w m s.2) (p := prodL s.1) (k := k) (by omega) (by omega)
      rw [← dry_force hm hp.2.1] at h3
      show k * List.foldl _ _ _ ≤ List.foldl _ _ _
      rw [← e]
      exact Int.le_trans h2 h3
  · rcases d3 with d3 | d3
    · have h1 := d2 _ (List.mem_map.2 ⟨s0, hs0, rfl⟩)
      rw [d3] at h1
      have h2 : 0 ≤ upD (force (dryM M) (k * w) m s0.2) (prodL s0.1) := Int.ediv_nonneg (by omega) (by omega)
      omega
    · obtain ⟨s, hs, e⟩ := List.mem_map.1 d3
      have hp := truth_ok hD hs
      have h1 := c2 _ (List.mem_map.2 ⟨s, hs, rfl⟩)
      have h2 := Int.mul_le_mul_of_nonneg_left h1 (show 0 ≤ k by omega)
      have h3 := up_times (f := force (dryM M) w m s.2) (p := prodL s.1) (k := k) (by omega) (by omega)
      rw [← dry_force hm hp.2.1] at h3
      show List.foldl _ _ _ ≤ k * List.foldl _ _ _
      rw [← e]
      exact Int.le_trans h3 h2
end Go.Proofs.Ytomcjopcfdllgaa
