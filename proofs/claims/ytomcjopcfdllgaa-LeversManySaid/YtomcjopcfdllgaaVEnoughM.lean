/-
  Levers, the theorem of what is enough: what is surely pulled, by weight and by minutes.
-/
import Derived.Test.YtomcjopcfdllgaaVTruthsR
import Derived.Test.YtomcjopcfdllgaaVPulled
import Derived.Test.YtomcjopcfdllgaaVWeights

namespace Go.Proofs.Ytomcjopcfdllgaa
open Go.RowKit Go.Shelf

/-- Whether a load is surely pulled. -/
def sureB (M : Mach) (weight minutes load : Int) : Bool := decide ((pulledA M weight minutes load).2 = 0) && decide ((pulledA M weight minutes load).1 = 1)
theorem sure_all {M : Mach} (hne : truthsM M ≠ []) (weight minutes load : Int) : sureB M weight minutes load = allPull M weight minutes load := by
  have e : sureB M weight minutes load = decide (pulledN M weight minutes load = (truthsM M).length) := by
    simp only [sureB, pulledA, if_neg hne, knownI]
    by_cases h : pulledN M weight minutes load = (truthsM M).length
    · simp [h]
    · by_cases h0 : pulledN M weight minutes load = 0 <;> simp [h, h0]
  rw [e, Bool.eq_iff_iff, decide_eq_true_eq, pulledN, List.length_filter_eq_length_iff, allPull, List.all_eq_true]
theorem allPull_up {M : Mach} (hV : ValidM M) {u v minutes load : Int} (h : u ≤ v) (hp : allPull M u minutes load = true) : allPull M v minutes load = true := by
  rw [allPull, List.all_eq_true] at hp ⊢
  exact fun s hs => pulls_up hV h (hp s hs)
theorem truth_leak {M : Mach} (hV : ValidM M) {s : List Int × Int} (hs : s ∈ truthsM M) : 0 ≤ s.2 := by
  rw [truths_are] at hs
  exact (inSet_of hV (List.mem_filter.1 hs).1).2.2.1
theorem allPull_down {M : Mach} (hV : ValidM M) {u v weight load : Int} (h : u ≤ v) (hp : allPull M weight v load = true) : allPull M weight u load = true := by
  rw [allPull, List.all_eq_true] at hp ⊢
  exact fun s hs => pulls_down hV h (truth_leak hV hs) (hp s hs)
theorem find_spec (p : Nat → Bool) (n : Nat) {v : Nat} (hv : ((List.range n).find? p).getD n = v) : v ≤ n ∧ (∀ u, u < v → p u = false) ∧ (v < n → p v = true) := by
  cases h : (List.range n).find? p with
  | none =>
    rw [h] at hv
    have hv : n = v := hv
    subst hv
    rw [List.find?_eq_none] at h
    exact ⟨Nat.le_refl _, fun u hu => by simpa using h u (List.mem_range.2 hu), fun h => by omega⟩
  | some k =>
    rw [h] at hv
    have hv : k = v := hv
    subst hv
    obtain ⟨h1, h2, h3⟩ := List.find?_range_eq_some.1 h
    exact ⟨Nat.le_of_lt (List.mem_range.1 h2), fun u hu => by simpa using h3 u hu, fun _ => h1⟩
/-- What Weight says. -/
theorem weight_says {M : Mach} (hV : ValidM M) (hne : truthsM M ≠ []) (minutes load : Int) {r : Int × Int} (h : weightA M minutes load = r) :
    (r.2 = 0 ∧ (0 ≤ r.1 ∧ r.1 ≤ 9999) ∧ (∀ v, r.1 ≤ v → sureB M v minutes load = true) ∧ (0 < r.1 → sureB M (r.1 - 1) minutes load = false)) ∨ (r.2 = 3 ∧ sureB M 9999 minutes load = false) := by
  have he : (truthsM M).isEmpty = false := by rw [List.isEmpty_eq_false_iff]; exact hne
  obtain ⟨L, hL⟩ : ∃ L, leastW M minutes load = L := ⟨_, rfl⟩
  obtain ⟨h1, h2, h3⟩ := find_spec (fun v => allPull M (v : Nat) minutes load) 10000 hL
  unfold weightA at h
  rw [hL, he] at h
  by_cases hge : 10000 ≤ L
  · rw [if_pos (.inr hge)] at h
    subst h
    exact .inr ⟨rfl, by rw [sure_all hne]; exact h2 9999 (by omega)⟩
  · rw [if_neg (by simp; omega)] at h
    subst h
    refine .inl ⟨rfl, ⟨by simp, by simp; omega⟩, fun v hv => by rw [sure_all hne]; exact allPull_up hV hv (h3 (by omega)), fun h0 => ?_⟩
    have h0 : (0 : Int) < (L : Int) := h0
    rw [sure_all hne]
    have := h2 (L - 1) (by omega)
    have e : (((L - 1 : Nat) : Nat) : Int) = (L : Int) - 1 := by omega
    rw [e] at this
    exact this
/-- What Until says. -/
theorem until_says {M : Mach} (hV : ValidM M) (hne : truthsM M ≠ []) (weight load : Int) {r : Int × Int} (h : untilA M weight load = r) :
    (r.2 = 0 ∧ (0 ≤ r.1 ∧ r.1 ≤ 99) ∧ (∀ v, v ≤ r.1 → sureB M weight v load = true) ∧ (r.1 < 99 → sureB M weight (r.1 + 1) load = false)) ∨ (r.2 = 3 ∧ sureB M weight 0 load = false) := by
  have he : (truthsM M).isEmpty = false := by rw [List.isEmpty_eq_false_iff]; exact hne
  obtain ⟨L, hL⟩ : ∃ L, lastU M weight load = L := ⟨_, rfl⟩
  obtain ⟨h1, h2, h3⟩ := find_spec (fun v => allPull M weight (99 - (v : Nat)) load) 100 hL
  unfold untilA at h
  rw [hL, he] at h
  by_cases hge : 100 ≤ L
  · rw [if_pos (.inr hge)] at h
    subst h
    exact .inr ⟨rfl, by rw [sure_all hne]; exact h2 99 (by omega)⟩
  · rw [if_neg (by simp; omega)] at h
    subst h
    refine .inl ⟨rfl, ⟨by simp; omega, by show (99 : Int) - (L : Int) ≤ 99; omega⟩, fun v hv => by rw [sure_all hne]; exact allPull_down hV hv (h3 (by omega)), fun h0 => ?_⟩
    have h0 : (99 : Int) - (L : Int) < 99 := h0
    rw [sure_all hne]
    have := h2 (L - 1) (by omega)
    have e : (99 : Int) - ((L - 1 : Nat) : Int) = 99 - (L : Int) + 1 := by omega
    rw [e] at this
    exact this
set_option maxRecDepth 100000 in
set_option maxHeartbeats 4000000 in
theorem sure_any (v : Value) (M : Mach) (weight minutes load : Int) (w : World) (hx : MachAt w.heap.size w v M) (hV : validMB M = true) (ha : askB weight minutes load 0 = true) :
    Calls Try.prog 37 #[v, .int .i64 weight, .int .i64 minutes, .int .i64 load] w fun e w' => e = .returned (.bool (sureB M weight minutes load)) ∧ Below w.heap.size w w' := by
  have HX := Lib.hid (fun W (hb : Below w.heap.size w W) => (hx.below hb).mono hb.size)
  obtain ⟨a, cap, a2, cap2, rfl⟩ := hx.form
  have HP := Lib.hid (fun W hb => Pulled_any _ M weight minutes load W (HX.out W hb) hV ha)
  obtain ⟨⟨r, er⟩, hr⟩ : ∃ q, pulledA M weight minutes load = q := ⟨_, rfl⟩
  have HS := Lib.hid (show sureB M weight minutes load = (decide (er = 0) && decide (r = 1)) by rw [sureB, hr])
  rw [hr] at HP
  clear hx hr
  by_cases h0 : er = 0
  · subst h0
    by_cases h1 : r = 1
    · subst h1
      go_enter Try.func37, Try.ntmps37
      go_wp2_with (go_at_call 19; refine (HP.out _ (by go_grown)).mono ?_; rintro e w1 ⟨rfl, hb⟩; have HB := Lib.hid ((show Below w.heap.size w _ by go_grown).trans (hb.mono (by simp))); clear hb)
      go_ret
      exact ⟨by rw [HS.out]; rfl, HB.out⟩
    · have h1' : (r == 1) = false := by rw [beq_eq_false_iff_ne]; exact h1
      go_enter Try.func37, Try.ntmps37
      go_wp2_with (go_at_call 19; refine (HP.out _ (by go_grown)).mono ?_; rintro e w1 ⟨rfl, hb⟩; have HB := Lib.hid ((show Below w.heap.size w _ by go_grown).trans (hb.mono (by simp))); clear hb)
      go_ret
      exact ⟨by rw [HS.out]; simp [h1], HB.out⟩
  · have h0' : (er == 0) = false := by rw [beq_eq_false_iff_ne]; exact h0
    go_enter Try.func37, Try.ntmps37
    go_wp2_with (go_at_call 19; refine (HP.out _ (by go_grown)).mono ?_; rintro e w1 ⟨rfl, hb⟩; have HB := Lib.hid ((show Below w.heap.size w _ by go_grown).trans (hb.mono (by simp))); clear hb)
    go_ret
    exact ⟨by rw [HS.out]; simp [h0], HB.out⟩
set_option maxRecDepth 100000 in
set_option maxHeartbeats 4000000 in
theorem Truths_any (v : Value) (M : Mach) (w : World) (hx : MachAt w.heap.size w v M) (hV : validMB M = true) :
    Calls Try.prog 34 #[v] w fun e w' => e = .returned (.int .i64 (noneE (truthsM M).length)) ∧ Below w.heap.size w w' := by
  have HX := Lib.hid (fun W (hb : Below w.heap.size w W) => (hx.below hb).mono hb.size)
  obtain ⟨a, cap, a2, cap2, rfl⟩ := hx.form
  have HP := Lib.hid (fun W hb => truths_ok hV _ W (HX.out W hb))
  clear hx
  go_enter Try.func34, Try.ntmps34
  go_wp2_with (go_at_call 70; refine (HP.out _ (by go_grown)).mono ?_; rintro e w1 ⟨u, rfl, _, hb⟩; have HB := Lib.hid ((show Below w.heap.size w _ by go_grown).trans (hb.mono (by simp))); clear hb)
  go_ret
  exact ⟨rfl, HB.out⟩
end Go.Proofs.Ytomcjopcfdllgaa
