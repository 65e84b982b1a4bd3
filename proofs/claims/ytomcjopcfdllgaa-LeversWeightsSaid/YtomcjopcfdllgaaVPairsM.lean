/-
  Levers: pairs of short arms counted one after the other; rows of numbers in memory.
-/
import Derived.Test.YtomcjopcfdllgaaVSetting

namespace Go.Proofs.Ytomcjopcfdllgaa
open Go.RowKit

def offN (A B : Int × Int) (q : Int × Int) : Nat := (q.1 * q.2 - A.1 * B.1).toNat
/-- The pairs that came before (x, y). -/
def doneL (A B : Int × Int) (x y : Int) : List (Int × Int) := pairsL (A.1, x - 1) B ++ (rangeL B.1 (y - 1)).map (fun v => (x, v))
theorem range_snoc {lo y : Int} (h : lo ≤ y) : rangeL lo y = rangeL lo (y - 1) ++ [y] := by
  obtain ⟨k, rfl⟩ : ∃ k : Nat, y = lo + k := ⟨(y - lo).toNat, by omega⟩
  unfold rangeL
  rw [show (lo + (k : Int) - lo + 1).toNat = k + 1 by omega, show (lo + (k : Int) - 1 - lo + 1).toNat = k by omega, List.range_succ, List.map_append]
  rfl
theorem range_none {lo : Int} : rangeL lo (lo - 1) = [] := by
  unfold rangeL
  rw [show (lo - 1 - lo + 1).toNat = 0 by omega]
  rfl
theorem done_step {A B : Int × Int} {x y : Int} (h : B.1 ≤ y) : doneL A B x (y + 1) = doneL A B x y ++ [(x, y)] := by
  unfold doneL
  rw [show y + 1 - 1 = y by omega, range_snoc h, List.map_append, List.append_assoc]
  rfl
theorem done_row {A B : Int × Int} {x : Int} (h : A.1 ≤ x) : doneL A B x (B.2 + 1) = doneL A B (x + 1) B.1 := by
  unfold doneL pairsL
  rw [show B.2 + 1 - 1 = B.2 by omega, range_none, show x + 1 - 1 = x by omega]
  dsimp only
  rw [range_snoc h, List.flatMap_append]
  simp
theorem done_none {A B : Int × Int} : doneL A B A.1 B.1 = [] := by
  unfold doneL pairsL
  rw [range_none, range_none]
  rfl
theorem done_all {A B : Int × Int} : doneL A B (A.2 + 1) B.1 = pairsL A B := by
  unfold doneL
  rw [range_none, show A.2 + 1 - 1 = A.2 by omega]
  simp
def wayI (A B : Int × Int) (ps : List (Int × Int)) (i : Nat) : Int := (tally (ps.map (offN A B)) i : Nat)
def armI (A B : Int × Int) (ps : List (Int × Int)) (i : Nat) : Int := ps.foldl (fun v q => if offN A B q = i then q.1 else v) 0
theorem wayI_snoc (A B : Int × Int) (ps : List (Int × Int)) (q : Int × Int) (i : Nat) : wayI A B (ps ++ [q]) i = if i = offN A B q then wayI A B ps i + 1 else wayI A B ps i := by
  unfold wayI
  rw [List.map_append, List.map_cons, List.map_nil, tally_snoc]
  by_cases h : offN A B q = i
  · rw [if_pos h, if_pos h.symm]; omega
  · rw [if_neg h, if_neg (fun e => h e.symm)]; omega
theorem armI_snoc (A B : Int × Int) (ps : List (Int × Int)) (q : Int × Int) (i : Nat) : armI A B (ps ++ [q]) i = if i = offN A B q then q.1 else armI A B ps i := by
  unfold armI
  rw [List.foldl_append, List.foldl_cons, List.foldl_nil]
  by_cases h : offN A B q = i
  · rw [if_pos h, if_pos h.symm]
  · rw [if_neg h, if_neg (fun e => h e.symm)]
theorem wayI_all (A B : Int × Int) (i : Nat) : wayI A B (pairsL A B) i = (wayN A B i : Nat) := rfl
theorem armI_all (A B : Int × Int) (i : Nat) : armI A B (pairsL A B) i = armAt A B i := rfl
theorem tally_le (vs : List Nat) (i : Nat) : tally vs i ≤ vs.length := List.length_filter_le _ _
theorem pairs_len {A B : Int × Int} : (pairsL A B).length = (A.2 - A.1 + 1).toNat * (B.2 - B.1 + 1).toNat := by
  unfold pairsL
  have h1 : ∀ lo hi : Int, (rangeL lo hi).length = (hi - lo + 1).toNat := fun lo hi => by simp [rangeL]
  have h2 : ∀ l : List Int, (l.flatMap (fun x => (rangeL B.1 B.2).map (fun y => (x, y)))).length = l.length * (B.2 - B.1 + 1).toNat := fun l => by
    induction l with
    | nil => simp
    | cons x l ih => rw [List.flatMap_cons, List.length_append, ih, List.length_map, h1, List.length_cons, Nat.succ_mul]; omega
  rw [h2, h1]
theorem pairs_le {A B : Int × Int} (hA : 1 ≤ A.1 ∧ A.2 ≤ 1000) (hB : 1 ≤ B.1 ∧ B.2 ≤ 1000) : (pairsL A B).length ≤ 1000000 := by
  rw [pairs_len]
  exact Nat.le_trans (Nat.mul_le_mul (show (A.2 - A.1 + 1).toNat ≤ 1000 by omega) (show (B.2 - B.1 + 1).toNat ≤ 1000 by omega)) (by decide)
theorem done_prefix {A B : Int × Int} {x y : Int} (hx : x ≤ A.2) (hy : y ≤ B.2 + 1) (hx0 : A.1 ≤ x) (hy0 : B.1 ≤ y) : doneL A B x y <+: pairsL A B := by
  obtain ⟨a, ha⟩ : ∃ a : Nat, A.2 = x + a := ⟨(A.2 - x).toNat, by omega⟩
  obtain ⟨b, hb⟩ : ∃ b : Nat, B.2 + 1 = y + b := ⟨(B.2 + 1 - y).toNat, by omega⟩
  have h1 : ∀ (b : Nat) (y : Int), B.1 ≤ y → doneL A B x y <+: doneL A B x (y + b) := fun b => by
    induction b with
    | zero => intro y _; rw [Int.natCast_zero, Int.add_zero]; exact List.prefix_rfl
    | succ b ih =>
      intro y hy
      refine (ih y hy).trans ?_
      rw [show y + ((b + 1 : Nat) : Int) = y + b + 1 by omega, done_step (by omega)]
      exact List.prefix_append _ _
  have h2 : ∀ (a : Nat) (x : Int), A.1 ≤ x → doneL A B x B.1 <+: doneL A B (x + a) B.1 := fun a => by
    induction a with
    | zero => intro x _; rw [Int.natCast_zero, Int.add_zero]; exact List.prefix_rfl
    | succ a ih =>
      intro x hx
      refine (ih x hx).trans ?_
      rw [show x + ((a + 1 : Nat) : Int) = x + a + 1 by omega, ← done_row (by omega)]
      obtain ⟨c, hc⟩ : ∃ c : Nat, B.2 + 1 = B.1 + c := ⟨(B.2 + 1 - B.1).toNat, by omega⟩
      rw [hc]
      have h1' : ∀ (b : Nat) (y : Int), B.1 ≤ y → doneL A B (x + a) y <+: doneL A B (x + a) (y + b) := fun b => by
        induction b with
        | zero => intro y _; rw [Int.natCast_zero, Int.add_zero]; exact List.prefix_rfl
        | succ b ih =>
          intro y hy
          refine (ih y hy).trans ?_
          rw [show y + ((b + 1 : Nat) : Int) = y + b + 1 by omega, done_step (by omega)]
          exact List.prefix_append _ _
      exact h1' c B.1 (Int.le_refl _)
  have e1 := h1 b y hy0
  rw [← hb, done_row hx0] at e1
  have e2 := h2 a (x + 1) (by omega)
  rw [show x + 1 + (a : Int) = A.2 + 1 by omega, done_all] at e2
  exact e1.trans e2
theorem way_le {A B : Int × Int} (hA : 1 ≤ A.1 ∧ A.2 ≤ 1000) (hB : 1 ≤ B.1 ∧ B.2 ≤ 1000) {x y : Int} (hx : x ≤ A.2) (hy : y ≤ B.2 + 1) (hx0 : A.1 ≤ x) (hy0 : B.1 ≤ y) (i : Nat) : 0 ≤ wayI A B (doneL A B x y) i ∧ wayI A B (doneL A B x y) i ≤ 1000000 := by
  have h1 := (done_prefix (A := A) (B := B) hx hy hx0 hy0).length_le
  have h2 := pairs_le hA hB
  have h3 := tally_le ((doneL A B x y).map (offN A B)) i
  rw [List.length_map] at h3
  unfold wayI
  omega

/-- Block b is a row of N numbers. -/
def RowAt (b N : Nat) (f : Nat → Int) (W : World) : Prop :=
  ∃ arr, W.heap[b]? = some (.cells arr 3) ∧ arr.size = N ∧ ∀ i, i < N → arr[i]? = some (.int .i64 (f i))
theorem RowAt.cell {b N : Nat} {f : Nat → Int} {W : World} (h : RowAt b N f W) {i : Nat} (hi : i < N) : W.cell? ⟨b, i, none⟩ = some (.int .i64 (f i)) := by
  obtain ⟨arr, h1, h2, h3⟩ := h
  rw [cell_of h1]; exact h3 i hi
theorem RowAt.frozen {b N : Nat} {f : Nat → Int} {W : World} (h : RowAt b N f W) (i : Nat) : W.frozen? ⟨b, i, none⟩ = false := by
  obtain ⟨arr, h1, _⟩ := h
  exact frozen_of h1 i
theorem RowAt.lt {b N : Nat} {f : Nat → Int} {W : World} (h : RowAt b N f W) : b < W.heap.size := by
  obtain ⟨arr, h1, _⟩ := h
  exact heap_lt h1
theorem RowAt.kept {b N : Nat} {f : Nat → Int} {W W' : World} (h : RowAt b N f W) (hk : W'.heap[b]? = W.heap[b]?) : RowAt b N f W' := by
  obtain ⟨arr, h1, h2⟩ := h
  exact ⟨arr, hk.trans h1, h2⟩
theorem RowAt.set {b N : Nat} {f : Nat → Int} {W : World} (h : RowAt b N f W) {o : Nat} (ho : o < N) (x : Int) : RowAt b N (fun i => if i = o then x else f i) (W.setCell ⟨b, o, none⟩ (.int .i64 x)) := by
  obtain ⟨arr, h1, h2, h3⟩ := h
  refine ⟨_, heap_setCell_same h1, by simp [h2], fun i hi => ?_⟩
  by_cases e : i = o
  · subst e; simp [h2, ho]
  · rw [Array.getElem?_setIfInBounds_ne (by omega)]; simp only [if_neg e]; exact h3 i hi
theorem RowAt.congr {b N : Nat} {f g : Nat → Int} {W : World} (h : RowAt b N f W) (e : ∀ i, f i = g i) : RowAt b N g W := by
  obtain rfl : f = g := funext e
  exact h
theorem row_new (w : World) (n : Nat) : RowAt w.heap.size n (fun _ => 0) (w.alloc (.cells (madeCells #[.int .i64 0] n) 3)) := by
  refine ⟨_, heap_new w _, by simp [size_madeCells], fun i hi => ?_⟩
  simp [madeCells, hi, Nat.mod_one]
end Go.Proofs.Ytomcjopcfdllgaa
