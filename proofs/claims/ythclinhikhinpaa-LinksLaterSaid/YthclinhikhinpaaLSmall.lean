/-
  Links, the law's own functions: parts of lists, lists that are not too long; what is so of answers.
-/
import Derived.Test.YthclinhikhinpaaLIn
import Derived.Test.YthclinhikhinpaaLErr
import Derived.Test.YthclinhikhinpaaLContraM
import Derived.Test.YthclinhikhinpaaLLaw1

namespace Go.Proofs.Ythclinhikhinpaa
open Go.RowKit Go.Shelf

theorem len_le_of {p q : List Int} (hq : q.Pairwise (· < ·)) (hp : p.Pairwise (· < ·)) (h : ∀ x ∈ q, x ∈ p) : q.length ≤ p.length := by
  have e : q = p.filter (fun x => decide (x ∈ q)) := sorted_ext hq (hp.filter _) (fun x => by simp only [List.mem_filter, decide_eq_true_eq]; exact ⟨fun hx => ⟨h x hx, hx⟩, fun hx => hx.2⟩)
  rw [e]
  exact List.length_filter_le _ _
theorem selTo_len (xs : List Int) (lo : Int) : ∀ n, (selTo xs lo n).length ≤ n
  | 0 => by simp [selTo]
  | n + 1 => by
    have := selTo_len xs lo n
    simp only [selTo, List.length_append]
    split <;> simp <;> omega

set_option maxHeartbeats 800000 in
theorem subset_any (v u : Value) (q p : List Int) (w : World) {B D : Nat} (hv : IntsAt B w v q) (hu : IntsAt D w u p) (hs : ∀ x ∈ q, x ∈ p) (hl : q.length ≤ p.length) :
    Calls Try.prog 57 #[v, u] w fun e w' => e = .returned (.bool true) ∧ w = w' := by
  have hu' := hu
  obtain ⟨a1, cap1, b1, off1, rfl, hm1, HA1, HC1, _⟩ := hv.opened
  obtain ⟨a2, cap2, b2, off2, rfl, hm2, _, _, _⟩ := hu.opened
  have HU := Lib.hid hu'
  have HSU := Lib.hid hs
  clear hv hu hu' hs
  go_enter Try.func57, Try.ntmps57
  go_wp2
  go_loop [5] (fun i => ∃ k : Nat, k ≤ q.length ∧ i = .int .i64 k) (fun i => q.length - (intOf i).toNat)
  case atStart => exact ⟨0, Nat.zero_le _, rfl⟩
  case round =>
    obtain ⟨k, hk, rfl⟩ := hrel
    by_cases hlt : k < q.length
    · obtain ⟨rfl, hb⟩ := HA1.out (by omega)
      have hcell := HC1.out k hlt
      have HQ := Lib.hid (show inB p (nth q k) = true from by simp only [inB, decide_eq_true_eq]; exact HSU.out _ (nth_mem hlt))
      go_wp2_with (go_at_call 50; refine (in_to HQ.out HU.out).mono ?_; rintro e w' ⟨rfl, rfl⟩)
      exact ⟨⟨k + 1, by omega, by go_num⟩, by simp [intOf]; omega⟩
    · have hd : decide ((q.length : Int) ≤ (p.length : Int)) = true := by simp; omega
      go_wp2
      go_ret
      exact ⟨rfl, rfl⟩

set_option maxHeartbeats 800000 in
/-- Slices side by side, none of them longer than forty. -/
theorem small_any (b n : Nat) (arr : Array Value) (t : TypeId) (w : World) (hb : w.heap[b]? = some (.cells arr t)) (hn : n ≤ 8) (ha : ∀ i, i < n → ∃ a l c, arr[i]? = some (.slice a l c) ∧ l ≤ 40) :
    Calls Try.prog 48 #[.slice (some ⟨b, 0, none⟩) n n] w fun e w' => e = .returned (.bool true) ∧ w = w' := by
  have HA := Lib.hid ha
  have HB := Lib.hid hb
  clear ha hb
  go_enter Try.func48, Try.ntmps48
  go_wp2
  go_loop [3] (fun i => ∃ k : Nat, k ≤ n ∧ i = .int .i64 k) (fun i => n - (intOf i).toNat)
  case atStart => exact ⟨0, Nat.zero_le _, rfl⟩
  case round =>
    obtain ⟨k, hk, rfl⟩ := hrel
    by_cases hlt : k < n
    · obtain ⟨a, l, c, h1, h2⟩ := HA.out k hlt
      have hcell : w.cell? ⟨b, k, none⟩ = some (.slice a l c) := cells_of HB.out h1
      clear h1
      go_wp2
      exact ⟨⟨k + 1, by omega, by go_num⟩, by simp [intOf]; omega⟩
    · go_wp2
      go_ret
      exact ⟨rfl, rfl⟩

theorem who_len {C : Chain} (hV : Valid C) (at_ : Int) : (ansV C (placeB C at_) (linkAt C at_.toNat)).length ≤ 40 := by
  unfold ansV
  split
  · rename_i h
    have hw := wB_iff.1 h
    have hr : ∀ x ∈ (truthsP C).map (linkAt C at_.toNat), (0 : Int) ≤ x ∧ x < 0 + (12 : Nat) := by
      intro x hx
      obtain ⟨e, _, rfl⟩ := List.mem_map.1 hx
      have h1 := story_ok (ends := e) hV.deed _ (Nat.le_refl _)
      have h2 := h1.2.2 (linkAt C at_.toNat e) (nth_mem (by omega))
      have h3 := weldsTo_le C.deeds C.deeds.length
      have h4 := hV.nd
      omega
    rw [srt_sel hr]
    exact Nat.le_trans (selTo_len _ _ _) (by omega)
  · simp
theorem where_len {C : Chain} (hV : Valid C) (link : Int) (b : Bool) : (ansV C b (placeOf C link)).length ≤ 40 := by
  unfold ansV
  split
  · have hr : ∀ x ∈ (truthsP C).map (placeOf C link), (-1 : Int) ≤ x ∧ x < -1 + (13 : Nat) := by
      intro x hx
      obtain ⟨e, _, rfl⟩ := List.mem_map.1 hx
      have h1 := ixV_bound (story C.deeds e C.deeds.length) link
      have h2 := (story_ok (ends := e) hV.deed _ (Nat.le_refl _)).1
      have h3 := lenTo_le C.deeds C.deeds.length
      have h4 := hV.nd
      unfold placeOf
      omega
    rw [srt_sel hr]
    exact Nat.le_trans (selTo_len _ _ _) (by omega)
  · simp
theorem ans_sorted (C : Chain) (b : Bool) (f : List Int → Int) : (ansV C b f).Pairwise (· < ·) := by
  unfold ansV
  split
  · exact srt_sorted _
  · simp
theorem truths_iff {C : Chain} : (truthsP C).length ≠ 0 ↔ fewV C ≤ C.wrong := by
  constructor
  · intro h
    obtain ⟨x, hx⟩ := List.exists_mem_of_ne_nil (truthsP C) (fun e => h (by rw [e]; rfl))
    have := mem_truthsP.1 hx
    exact Int.le_trans (fewV_le (mem_pastsL.2 this.1)) this.2
  · intro h e
    obtain ⟨x, hx, he⟩ := fewV_is C
    have : x ∈ truthsP C := mem_truthsP.2 ⟨mem_pastsL.1 hx, by omega⟩
    rw [List.length_eq_zero_iff.1 e] at this
    cases this

end Go.Proofs.Ythclinhikhinpaa
