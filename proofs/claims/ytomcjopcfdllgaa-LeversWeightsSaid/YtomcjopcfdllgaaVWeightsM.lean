/-
  Levers, the theorem of more weight: the math.
-/
import Derived.Test.YtomcjopcfdllgaaVLoadM

namespace Go.Proofs.Ytomcjopcfdllgaa

theorem minI_mono {α : Type} (f g : α → Int) (l : List α) (n : Int) (h : ∀ x ∈ l, f x ≤ g x) : (l.map f).foldl min n ≤ (l.map g).foldl min n := by
  obtain ⟨a1, a2, _⟩ := minI_fold (l.map f) n
  obtain ⟨_, _, b3⟩ := minI_fold (l.map g) n
  rcases b3 with b3 | b3
  · omega
  · obtain ⟨x, hx, e⟩ := List.mem_map.1 b3
    have h1 := a2 (f x) (List.mem_map.2 ⟨x, hx, rfl⟩)
    have h2 := h x hx
    omega
theorem maxI_mono {α : Type} (f g : α → Int) (l : List α) (n : Int) (h : ∀ x ∈ l, f x ≤ g x) : (l.map f).foldl max n ≤ (l.map g).foldl max n := by
  obtain ⟨a1, a2, _⟩ := maxI_fold (l.map g) n
  obtain ⟨_, _, b3⟩ := maxI_fold (l.map f) n
  rcases b3 with b3 | b3
  · omega
  · obtain ⟨x, hx, e⟩ := List.mem_map.1 b3
    have h1 := a2 (g x) (List.mem_map.2 ⟨x, hx, rfl⟩)
    have h2 := h x hx
    omega
theorem truth_ok {M : Mach} (hV : ValidM M) {s : List Int × Int} (hs : s ∈ truthsM M) : 1 ≤ prodL s.1 ∧ 0 ≤ s.2 ∧ s.2 ≤ 20 := by
  have h1 := prod_pos hV (mem_truths.1 hs).1
  have h2 := (mem_sets.1 (mem_truths.1 hs).1).2
  have h3 := hV.leak
  exact ⟨h1, by omega, by omega⟩
theorem upD_mono {m n b : Int} (hb : 0 < b) (h : m ≤ n) : upD m b ≤ upD n b := Int.ediv_le_ediv hb (by omega)
theorem floor_up {n b : Int} (hb : 0 < b) : n / b ≤ upD n b := by unfold upD; exact Int.ediv_le_ediv hb (by omega)
/-- With more weight or fewer minutes, no end of the load is less. -/
theorem load_mono {M : Mach} (hV : ValidM M) {x0 x1 y0 y1 : Int} (h0 : x0 ≤ y0) (h1 : y1 ≤ x1) : loadLo M x0 x1 ≤ loadLo M y0 y1 ∧ loadHi M x0 x1 ≤ loadHi M y0 y1 := by
  have hf : ∀ s ∈ truthsM M, force M x0 x1 s.2 ≤ force M y0 y1 s.2 := fun s hs => by
    have hk := truth_ok hV hs
    have e1 := force_up hV (minutes := x1) (leak := s.2) h0
    have e2 := force_down hV (weight := y0) h1 hk.2.1
    omega
  refine ⟨minI_mono _ _ _ _ (fun s hs => ?_), maxI_mono _ _ _ _ (fun s hs => ?_)⟩
  · exact Int.ediv_le_ediv (by have := truth_ok hV hs; omega) (hf s hs)
  · exact upD_mono (by have := truth_ok hV hs; omega) (hf s hs)
/-- The bounds are sane where there is a truth. -/
theorem load_sane {M : Mach} (hV : ValidM M) {w m : Int} (hw : 0 ≤ w ∧ w ≤ 9999) (hm : 0 ≤ m) (hne : truthsM M ≠ []) : 0 ≤ loadLo M w m ∧ loadLo M w m ≤ loadHi M w m ∧ loadHi M w m ≤ 1000000000000000 ∧ loadHi M w m < 1125899906842624 := by
  obtain ⟨s, hs⟩ := List.exists_mem_of_ne_nil _ hne
  have hp := truth_ok hV hs
  obtain ⟨_, a2, a3⟩ := minI_fold ((truthsM M).map (fun s => force M w m s.2 / prodL s.1)) 9223372036854775807
  obtain ⟨_, b2, _⟩ := maxI_fold ((truthsM M).map (fun s => upD (force M w m s.2) (prodL s.1))) (-1)
  have h1 := a2 _ (List.mem_map.2 ⟨s, hs, rfl⟩)
  have h2 := b2 _ (List.mem_map.2 ⟨s, hs, rfl⟩)
  have h3 := floor_up (n := force M w m s.2) (b := prodL s.1) (by omega)
  have h4 := (gHi_ok M hV hw hm (grpT M 0) (fun g hg => (List.mem_filter.1 hg).1)).2.1
  rw [gHi_all hV hw hm] at h4
  have h5 := (gLo_ok M hV hw hm (grpT M 0) (fun g hg => (List.mem_filter.1 hg).1)).1
  rw [gLo_all hV hw hm] at h5
  unfold loadLo loadHi at *
  omega
/-- The machine without water. -/
def dryM (M : Mach) : Mach := { M with water := 0 }
theorem dry_valid {M : Mach} (hV : ValidM M) : ValidM (dryM M) := ⟨hV.nl, hV.lev, (show (0 : Int) ≤ 0 ∧ (0 : Int) ≤ 9999 from by decide), hV.leak, hV.nb, hV.bal, hV.wrong⟩
theorem dry_force {M : Mach} {k w m leak : Int} (hm : 0 ≤ m) (hl : 0 ≤ leak) : force (dryM M) (k * w) m leak = k * force (dryM M) w m leak := by
  have h1 : 0 ≤ m * leak := Int.mul_nonneg hm hl
  have e : max ((dryM M).water - m * leak) 0 = 0 := by show max (0 - m * leak) 0 = 0; omega
  unfold force
  rw [e, Int.add_zero, Int.add_zero, Int.mul_assoc]
theorem floor_times {f p k : Int} (hp : 0 < p) (hk : 0 ≤ k) : k * (f / p) ≤ k * f / p := by
  rw [Int.le_ediv_iff_mul_le hp, Int.mul_assoc]
  exact Int.mul_le_mul_of_nonneg_left (Int.ediv_mul_le _ (by omega)) hk
theorem up_times {f p k : Int} (hp : 0 < p) (hk : 0 ≤ k) : upD (k * f) p ≤ k * upD f p := by
  rw [upD_le hp]
  have h := (upD_le (n := f) (P := upD f p) hp).1 (Int.le_refl _)
  have h2 := Int.mul_le_mul_of_nonneg_left h hk
  have e : p * (k * upD f p) = k * (p * upD f p) := by rw [← Int.mul_assoc, Int.mul_comm p k, Int.mul_assoc]
  omega
/-- Without water, k times the weight loads at least k times the least, at most k times the greatest. -/
theorem load_times {M : Mach} (hV : ValidM M) {k w m : Int} (hk : 1 ≤ k) (_hw : 0 ≤ w ∧ w ≤ 9999) (hkw : 0 ≤ k * w ∧ k * w ≤ 9999) (hm : 0 ≤ m) (hne : truthsM (dryM M) ≠ []) : k * loadLo (dryM M) w m ≤ loadLo (dryM M) (k * w) m ∧ loadHi (dryM M) (k * w) m ≤ k * loadHi (dryM M) w m := by
  have hD := dry_valid hV
  obtain ⟨a1, a2, a3⟩ := minI_fold ((truthsM (dryM M)).map (fun s => force (dryM M) w m s.2 / prodL s.1)) 9223372036854775807
  obtain ⟨b1, b2, b3⟩ := minI_fold ((truthsM (dryM M)).map (fun s => force (dryM M) (k * w) m s.2 / prodL s.1)) 9223372036854775807
  obtain ⟨c1, c2, c3⟩ := maxI_fold ((truthsM (dryM M)).map (fun s => upD (force (dryM M) w m s.2) (prodL s.1))) (-1)
  obtain ⟨d1, d2, d3⟩ := maxI_fold ((truthsM (dryM M)).map (fun s => upD (force (dryM M) (k * w) m s.2) (prodL s.1))) (-1)
  obtain ⟨s0, hs0⟩ := List.exists_mem_of_ne_nil _ hne
  have hp0 := truth_ok hD hs0
  have hf0 := force_ok hD hkw hm hp0.2.1
  constructor
  · rcases b3 with b3 | b3
    · have h1 := b2 _ (List.mem_map.2 ⟨s0, hs0, rfl⟩)
      have h2 : force (dryM M) (k * w) m s0.2 / prodL s0.1 ≤ force (dryM M) (k * w) m s0.2 := Int.ediv_le_self _ hf0.1
      rw [b3] at h1
      omega
    · obtain ⟨s, hs, e⟩ := List.mem_map.1 b3
      have hp := truth_ok hD hs
      have h1 := a2 _ (List.mem_map.2 ⟨s, hs, rfl⟩)
      have h2 := Int.mul_le_mul_of_nonneg_left h1 (show 0 ≤ k by omega)
      have h3 := floor_times (f := force (dryM M) w m s.2) (p := prodL s.1) (k := k) (by omega) (by omega)
      rw [← dry_force hm hp.2.1] at h3
      show k * List.foldl _ _ _ ≤ List.foldl _ _ _
      rw [← e]
      exact Int.le_trans h2 h3
  · rcases d3 with d3 | d3
    · have h1 := d2 _ (List.mem_map.2 ⟨s0, hs0, rfl⟩)
      rw [d3] at h1
      have h2 : 0 ≤ upD (force (dryM M) (k * w) m s0.2) (prodL s0.1) := Int.ediv_nonneg (by omega) (by omega)
      omega
    · obtain ⟨s, hs, e⟩ := List.mem_map.1 d3
      have hp := truth_ok hD hs
      have h1 := c2 _ (List.mem_map.2 ⟨s, hs, rfl⟩)
      have h2 := Int.mul_le_mul_of_nonneg_left h1 (show 0 ≤ k by omega)
      have h3 := up_times (f := force (dryM M) w m s.2) (p := prodL s.1) (k := k) (by omega) (by omega)
      rw [← dry_force hm hp.2.1] at h3
      show List.foldl _ _ _ ≤ k * List.foldl _ _ _
      rw [← e]
      exact Int.le_trans h3 h2
end Go.Proofs.Ytomcjopcfdllgaa
