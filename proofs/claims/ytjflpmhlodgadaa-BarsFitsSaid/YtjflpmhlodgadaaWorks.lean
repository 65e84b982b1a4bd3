/-
  The example of the chapter, and what the laws ask of it.
-/
import Derived.Test.YtjflpmhlodgadaaRoom
import Derived.Test.YtjflpmhlodgadaaMany
namespace Go.Proofs.Ytjflpmhlodgadaa
open Go.RowKit Go.Shelf

def exS : Store := ⟨[⟨3, 100⟩, ⟨5, 60⟩, ⟨3, 45⟩], 5, [⟨50, [3, 5]⟩, ⟨45, [3]⟩, ⟨40, [3, 8]⟩], 0⟩
theorem ex_valid : validB exS = true := by decide +kernel
theorem ex_many : (truthsL exS).length = 5 := by decide +kernel
theorem ex_of : ofS exS 1 = [0, 2] := by decide +kernel
theorem ex_rest : restSpan exS 0 (truthsL exS) = (0, 60) := by decide +kernel
theorem ex_room : roomV exS 50 = (3, 0) := by decide +kernel
theorem ex_least : leastS exS = 2 := by decide +kernel
theorem ex_restV : restV exS 0 = .tuple #[.agg #[.int .i64 0, .int .i64 60], .int .i64 0] := by
  unfold restV; rw [if_neg (by rw [ex_many]; omega), ex_rest]

theorem Many_any (v : Value) (S : Store) (w : World) (hx : StoreAt w.heap.size w v S) (hV : Valid S) :
    Calls Try.prog 33 #[v] w fun e w' => e = .returned (.tuple #[.int .i64 (truthsL S).length, .int .i64 (errN (truthsL S).length)]) ∧ Below w.heap.size w w' :=
  wide_calls (many_in Fence.wide rfl rfl rfl (fun _ => trivial) 9 (by omega) v S w hx hV)
theorem Rest_any (v : Value) (S : Store) (bar : Int) (w : World) (hx : StoreAt w.heap.size w v S) (hV : Valid S) (hr0 : 0 ≤ bar) (hr1 : bar < S.bars.length) :
    Calls Try.prog 24 #[v, .int .i64 bar] w fun e w' => e = .returned (restV S bar) ∧ Below w.heap.size w w' :=
  wide_calls (Rest_in Fence.wide rfl rfl rfl (fun _ => trivial) 9 (by omega) v S bar w hx hV hr0 hr1)
theorem Of_any (v : Value) (S : Store) (p : Nat) (w : World) (hx : StoreAt w.heap.size w v S) (hV : Valid S) (hp : p < S.pieces.length) :
    Calls Try.prog 29 #[v, .int .i64 p] w (GaveIntsE (ofS S p) (errN (ofS S p).length) w) :=
  wide_calls (Of_in Fence.wide rfl rfl rfl (fun _ => trivial) 9 (by omega) v S p w hx hV hp)

theorem cells_of {w : World} {b i : Nat} {cs : Array Value} {t : TypeId} {u : Value} (h : w.heap[b]? = some (.cells cs t)) (hi : cs[i]? = some u) : w.cell? ⟨b, i, none⟩ = some u := by
  simp [World.cell?, h, hi]

theorem lit2 (a b : Int) : ∀ i, i < [a, b].length → (#[Value.int .i64 a, .int .i64 b])[i]? = some (.int .i64 (nth [a, b] i))
  | 0, _ => rfl
  | 1, _ => rfl
  | i + 2, h => by simp at h; omega
theorem lit1 (a : Int) : ∀ i, i < [a].length → (#[Value.int .i64 a])[i]? = some (.int .i64 (nth [a] i))
  | 0, _ => rfl
  | i + 1, h => by simp at h
theorem ints_lit {B b : Nat} {w : World} {xs : List Int} {arr : Array Value} {t : TypeId} (h : w.heap[b]? = some (.cells arr t)) (hB : b < B) (hs : arr.size = xs.length) (hc : ∀ i, i < xs.length → arr[i]? = some (.int .i64 (nth xs i))) (hw : ∀ x ∈ xs, I64 x) (hl : xs.length ≤ maxLen := by decide) :
    IntsAt B w (.slice (some ⟨b, 0, none⟩) xs.length xs.length) xs :=
  ⟨_, xs.length, b, 0, rfl, Nat.le_refl _, hl, fun _ => ⟨rfl, hB⟩, fun i hi => by rw [Nat.zero_add]; exact cells_of h (hc i hi), hw⟩

set_option maxRecDepth 100000 in
set_option maxHeartbeats 2000000 in
theorem Example_any (w : World) :
    Calls Try.prog 57 #[] w fun e w' => ∃ v, e = .returned v ∧ StoreAt w'.heap.size w' v exS ∧ Below w.heap.size w w' := by
  go_enter Try.func57, Try.ntmps57
  go_wp2
  generalize hW : ((((((w.alloc _).alloc _).alloc _).alloc _).alloc _).alloc _) = W
  have e1 := heap_at3 w (.cells #[.slice (some ⟨w.heap.size + 1, 0, none⟩) 3 3, .int .i64 5, .slice (some ⟨w.heap.size + 1 + 1 + 1 + 1 + 1, 0, none⟩) 3 3, .int .i64 0] 25) (.cells #[.int .i64 3, .int .i64 100, .int .i64 5, .int .i64 60, .int .i64 3, .int .i64 45] 53) (.cells #[.int .i64 3, .int .i64 5] 3)
  have e2 := heap_at3 (((w.alloc (.cells #[.slice (some ⟨w.heap.size + 1, 0, none⟩) 3 3, .int .i64 5, .slice (some ⟨w.heap.size + 1 + 1 + 1 + 1 + 1, 0, none⟩) 3 3, .int .i64 0] 25)).alloc (.cells #[.int .i64 3, .int .i64 100, .int .i64 5, .int .i64 60, .int .i64 3, .int .i64 45] 53)).alloc (.cells #[.int .i64 3, .int .i64 5] 3)) (.cells #[.int .i64 3] 3) (.cells #[.int .i64 3, .int .i64 8] 3) (.cells #[.int .i64 50, .slice (some ⟨w.heap.size + 1 + 1, 0, none⟩) 2 2, .int .i64 45, .slice (some ⟨w.heap.size + 1 + 1 + 1, 0, none⟩) 1 1, .int .i64 40, .slice (some ⟨w.heap.size + 1 + 1 + 1 + 1, 0, none⟩) 2 2] 60)
  have e3 := below_at3 (((w.alloc (.cells #[.slice (some ⟨w.heap.size + 1, 0, none⟩) 3 3, .int .i64 5, .slice (some ⟨w.heap.size + 1 + 1 + 1 + 1 + 1, 0, none⟩) 3 3, .int .i64 0] 25)).alloc (.cells #[.int .i64 3, .int .i64 100, .int .i64 5, .int .i64 60, .int .i64 3, .int .i64 45] 53)).alloc (.cells #[.int .i64 3, .int .i64 5] 3)) (.cells #[.int .i64 3] 3) (.cells #[.int .i64 3, .int .i64 8] 3) (.cells #[.int .i64 50, .slice (some ⟨w.heap.size + 1 + 1, 0, none⟩) 2 2, .int .i64 45, .slice (some ⟨w.heap.size + 1 + 1 + 1, 0, none⟩) 1 1, .int .i64 40, .slice (some ⟨w.heap.size + 1 + 1 + 1 + 1, 0, none⟩) 2 2] 60)
  have hb := (below_at3 w _ _ _).trans (e3.mono (by simp; omega))
  rw [hW] at e2 e3 hb
  have hsz : W.heap.size = w.heap.size + 6 := by rw [← hW]; simp
  simp only [World.size_alloc] at e2 e3
  have g0 := (e3.block w.heap.size (by omega)).trans e1.1
  have g1 := (e3.block (w.heap.size + 1) (by omega)).trans e1.2.1
  have g2 := (e3.block (w.heap.size + 2) (by omega)).trans e1.2.2
  obtain ⟨g3, g4, g5⟩ := e2
  obtain ⟨y0, y1, y2, y3⟩ := box4_of g0
  refine bodyPost_ret (v := .agg #[.slice (some ⟨w.heap.size + 1, 0, none⟩) 3 3, .int .i64 5, .slice (some ⟨w.heap.size + 1 + 1 + 1 + 1 + 1, 0, none⟩) 3 3, .int .i64 0]) (by simp [results, Try.results57, go_sem, y0, y1, y2, y3]) rfl ⟨_, rfl, ?_, hb⟩
  refine ⟨_, _, rfl, ?_, ?_, ⟨by decide, by decide⟩, ⟨by decide, by decide⟩⟩
  · refine ⟨some ⟨w.heap.size + 1, 0, none⟩, 3, w.heap.size + 1, 0, rfl, by decide, by unfold maxLen; decide, fun _ => ⟨rfl, by omega⟩, fun i hi => ?_, ?_⟩
    · have : i = 0 ∨ i = 1 ∨ i = 2 := by have : exS.bars.length = 3 := rfl; omega
      rcases this with rfl | rfl | rfl <;> exact ⟨cells_of g1 rfl, cells_of g1 rfl⟩
    · intro x hx
      simp only [exS, List.mem_cons, List.not_mem_nil, or_false] at hx
      rcases hx with rfl | rfl | rfl <;> exact ⟨⟨by decide, by decide⟩, ⟨by decide, by decide⟩⟩
  · refine ⟨some ⟨w.heap.size + 5, 0, none⟩, 3, w.heap.size + 5, 0, rfl, by decide, by unfold maxLen; decide, fun _ => ⟨rfl, by omega⟩, fun i hi => ?_, ?_⟩
    · have : i = 0 ∨ i = 1 ∨ i = 2 := by have : exS.pieces.length = 3 := rfl; omega
      rcases this with rfl | rfl | rfl
      · exact ⟨cells_of g5 rfl, _, cells_of g5 rfl, ints_lit (B := W.heap.size) (xs := [3, 5]) g2 (by omega) rfl (lit2 _ _) (by intro x hx; simp at hx; rcases hx with rfl | rfl <;> exact ⟨by decide, by decide⟩)⟩
      · exact ⟨cells_of g5 rfl, _, cells_of g5 rfl, ints_lit (B := W.heap.size) (xs := [3]) g3 (by omega) rfl (lit1 _) (by intro x hx; simp at hx; subst hx; exact ⟨by decide, by decide⟩)⟩
      · exact ⟨cells_of g5 rfl, _, cells_of g5 rfl, ints_lit (B := W.heap.size) (xs := [3, 8]) g4 (by omega) rfl (lit2 _ _) (by intro x hx; simp at hx; rcases hx with rfl | rfl <;> exact ⟨by decide, by decide⟩)⟩
    · intro x hx
      simp only [exS, List.mem_cons, List.not_mem_nil, or_false] at hx
      rcases hx with rfl | rfl | rfl <;> exact ⟨by decide, by decide⟩
end Go.Proofs.Ytjflpmhlodgadaa
