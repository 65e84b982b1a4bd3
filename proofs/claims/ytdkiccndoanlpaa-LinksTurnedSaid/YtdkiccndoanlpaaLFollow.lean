/-
  Links, walks: a past is made, and the deeds of a chain are followed in it.
-/
import Derived.Test.YtdkiccndoanlpaaLPast
import Derived.Test.YtdkiccndoanlpaaLOpen
import Derived.Deep.OwnRows

namespace Go.Proofs.Ytdkiccndoanlpaa
open Go.RowKit Go.Sort

/-- The memory of a past: the cables after the first k deeds are there, the rows of the others are anything. -/
structure PastTo (n Bp Bm : Nat) (cab : Nat → List Int) (k : Nat) (W : World) : Prop where
  ne : Bp ≠ Bm
  hdr : ∃ arr, W.heap[Bp]? = some (.cells arr 33) ∧ arr.size = n + 1 ∧ (∀ i, i ≤ k → arr[i]? = some (.slice (some ⟨Bm, i * 12, none⟩) (cab i).length 12)) ∧
    ∀ i, k < i → i ≤ n → ∃ l, l ≤ 12 ∧ arr[i]? = some (.slice (some ⟨Bm, i * 12, none⟩) l 12)
  mem : ∃ f, RowAt Bm ((n + 1) * 12) f W ∧ ∀ i, i ≤ k → Holds f (i * 12) (cab i)
  len : ∀ i, i ≤ k → (cab i).length ≤ 12
abbrev pastV (n Bp : Nat) : Value := .slice (some ⟨Bp, 0, none⟩) (n + 1) (n + 1)
theorem PastTo.ltp {n Bp Bm : Nat} {cab : Nat → List Int} {k : Nat} {W : World} (h : PastTo n Bp Bm cab k W) : Bp < W.heap.size := by
  obtain ⟨arr, h1, _⟩ := h.hdr; exact heap_lt h1
theorem PastTo.ltm {n Bp Bm : Nat} {cab : Nat → List Int} {k : Nat} {W : World} (h : PastTo n Bp Bm cab k W) : Bm < W.heap.size := by
  obtain ⟨f, h1, _⟩ := h.mem; exact h1.lt
theorem PastTo.kept {n Bp Bm : Nat} {cab : Nat → List Int} {k : Nat} {W W' : World} (h : PastTo n Bp Bm cab k W) {own : Nat → Prop} (hk : KeptBut own W W') (hp : ¬ own Bp) (hm : ¬ own Bm) : PastTo n Bp Bm cab k W' := by
  obtain ⟨arr, h1, h2⟩ := h.hdr
  obtain ⟨f, h3, h4⟩ := h.mem
  exact ⟨h.ne, ⟨arr, (hk.block _ (heap_lt h1) hp).trans h1, h2⟩, ⟨f, h3.kept (hk.block _ h3.lt hm), h4⟩, h.len⟩

theorem hdr_cell {n Bp Bm : Nat} {cab : Nat → List Int} {k : Nat} {W : World} (h : PastTo n Bp Bm cab k W) {i : Nat} (hi : i ≤ k) : W.cell? ⟨Bp, i, none⟩ = some (.slice (some ⟨Bm, i * 12, none⟩) (cab i).length 12) := by
  obtain ⟨arr, h1, h2, h3, _⟩ := h.hdr
  rw [cell_of h1]; exact h3 i hi

theorem made_get {z : Value} {n i : Nat} (h : i < n) : (madeCells #[z] n)[i]? = some z := by
  rw [← Array.getElem?_toList, toList_madeCells_one, List.getElem?_replicate, if_pos h]

/-- A past while it is made: the first k rows are cut out. -/
structure NewSt (n : Nat) (w : World) (k : Nat) (W : World) : Prop where
  hdr : ∃ arr, W.heap[w.heap.size]? = some (.cells arr 33) ∧ arr.size = n + 1 ∧ (∀ i, i < k → arr[i]? = some (.slice (some ⟨w.heap.size + 1, i * 12, none⟩) 0 12)) ∧ ∀ i, k ≤ i → i ≤ n → arr[i]? = some (.slice none 0 0)
  mem : RowAt (w.heap.size + 1) ((n + 1) * 12) (fun _ => 0) W
  size : W.heap.size = w.heap.size + 2
  kept : Below w.heap.size w W
theorem NewSt.step {n : Nat} {w : World} {k : Nat} {W : World} (h : NewSt n w k W) (hk : k ≤ n) : NewSt n w (k + 1) (W.setCell ⟨w.heap.size, k, none⟩ (.slice (some ⟨w.heap.size + 1, k * 12, none⟩) 0 12)) := by
  obtain ⟨arr, h1, h2, h3, h4⟩ := h.hdr
  refine ⟨⟨_, heap_setCell_same h1, by simp [h2], fun i hi => ?_, fun i hi hin => ?_⟩, h.mem.kept (heap_setCell_other (by omega)), by rw [size_setCell]; exact h.size, below_setCell h.kept (Nat.le_refl _)⟩
  · by_cases e : i = k
    · subst e; simp [Array.getElem?_setIfInBounds, h2]; omega
    · rw [Array.getElem?_setIfInBounds_ne (by omega)]; exact h3 i (by omega)
  · rw [Array.getElem?_setIfInBounds_ne (by omega)]; exact h4 i (by omega) hin

set_option maxRecDepth 100000 in
set_option maxHeartbeats 2000000 in
theorem newPast_any (n : Nat) (w : World) (hn : n ≤ 12) :
    Calls Try.prog 113 #[.int .i64 n] w fun e w' => e = .returned (pastV n w.heap.size) ∧ Below w.heap.size w w' ∧ w'.heap.size = w.heap.size + 2 ∧ PastTo n w.heap.size (w.heap.size + 1) (fun _ => []) n w' := by
  go_enter Try.func113, Try.ntmps113
  have hw1 : IntKind.i64.wrap ((n : Int) + 1) = (n : Int) + 1 := IntWalk.i64_in _ (by omega)
  have hw2 : IntKind.i64.wrap (((n : Int) + 1) * 12) = ((n : Int) + 1) * 12 := IntWalk.i64_in _ (by omega)
  have hmk1 : ∀ w, (Instr.makeSlice 89 (.int .i64 ((n : Int) + 1)) (.int .i64 ((n : Int) + 1))).run Try.prog w = .ok (.slice (some ⟨w.heap.size, 0, none⟩) (n + 1) (n + 1)) (w.alloc (.cells (madeCells #[.slice none 0 0] (n + 1)) 33)) := fun w => by
    have := run_make_row' (P := Try.prog) 89 33 (.slice none 0 0) 24 (by kernel_rfl) (by kernel_rfl) rfl .i64 .i64 (n + 1) (by omega) (by omega) w
    simpa only [Int.natCast_add, Int.natCast_one] using this
  have hmk2 : ∀ w, (Instr.makeSlice 33 (.int .i64 (((n : Int) + 1) * 12)) (.int .i64 (((n : Int) + 1) * 12))).run Try.prog w = .ok (.slice (some ⟨w.heap.size, 0, none⟩) ((n + 1) * 12) ((n + 1) * 12)) (w.alloc (.cells (madeCells #[.int .i64 0] ((n + 1) * 12)) 3)) := fun w => by
    have := run_make_row' (P := Try.prog) 33 3 (.int .i64 0) 8 (by kernel_rfl) (by kernel_rfl) rfl .i64 .i64 ((n + 1) * 12) (by omega) (by omega) w
    simpa only [Int.natCast_mul, Int.natCast_add, Int.natCast_one, show ((12 : Nat) : Int) = 12 from rfl] using this
  go_wp2_with fail
  go_loopw [16] (fun i wr => ∃ k : Nat, k ≤ n + 1 ∧ i = .int .i64 k ∧ Hid (NewSt n w k wr)) (fun i _ => n + 1 - (intOf i).toNat)
  case atStart =>
    exact ⟨0, Nat.zero_le _, rfl, ⟨⟨_, heap_old1 _ _ _, by simp [size_madeCells], fun i hi => by omega, fun i _ hi => made_get (by omega)⟩, ⟨_, heap_new1 _ _ _, by simp [size_madeCells], fun i hi => made_get hi⟩, by simp, by go_grown⟩⟩
  case round =>
    obtain ⟨k, hk, rfl, hst⟩ := hrel
    clear hw1 hw2 hmk1 hmk2
    by_cases hlt : k < n + 1
    · obtain ⟨arr, h1, h2, h3, h4⟩ := hst.out.hdr
      have t0 := (cell_of h1 k).trans (h4 k (Nat.le_refl _) (by omega))
      have t1 := frozen_of h1 k
      clear h1 h2 h3 h4
      go_wp2_with fail
      exact ⟨⟨k + 1, by omega, by go_num, hst.out.step (by omega)⟩, by simp [intOf]; omega⟩
    · obtain rfl : k = n + 1 := by omega
      go_wp2_with fail
      go_ret
      refine ⟨rfl, hst.out.kept, hst.out.size, ⟨by omega, ?_, ⟨_, hst.out.mem, fun i _ j hj => by simp at hj⟩, fun i _ => by simp⟩⟩
      obtain ⟨arr, h1, h2, h3, h4⟩ := hst.out.hdr
      exact ⟨arr, h1, h2, fun i hi => h3 i (by omega), fun i hi hin => by omega⟩

end Go.Proofs.Ytdkiccndoanlpaa
