/-
  Links, the law's own functions: equal numbers, the example.
-/
import Derived.Test.YtgjikoebneiamaaLSeq1
import Derived.BigQuiet

namespace Go.Proofs.Ytgjikoebneiamaa
open Go.RowKit Go.Shelf

theorem list_ext_nth {a b : List Int} (hl : a.length = b.length) (h : ∀ i, i < a.length → nth a i = nth b i) : a = b := by
  apply List.ext_getElem hl
  intro i h1 h2
  have := h i h1
  rwa [nth_lt h1, nth_lt h2] at this

set_option maxHeartbeats 1000000 in
theorem SameInts_any (v u : Value) (a b : List Int) (w : World) {B C : Nat} (hv : IntsAt B w v a) (hu : IntsAt C w u b) :
    Calls Try.prog 26 #[v, u] w fun e w' => e = .returned (.bool (decide (a = b))) ∧ ∃ n, w' = w.drewN n := by
  obtain ⟨a1, cap1, b1, off1, rfl, hm1, HA1, HC1, _⟩ := hv.opened
  obtain ⟨a2, cap2, b2, off2, rfl, hm2, HA2, HC2, _⟩ := hu.opened
  clear hv hu
  by_cases hl : a.length = b.length
  case neg =>
    have hn : ((a.length : Int) != (b.length : Int)) = true := by simp; omega
    have HE := Lib.hid (show decide (a = b) = false from by simp; rintro rfl; exact hl rfl)
    clear hl
    go_enter Try.func26, Try.ntmps26
    go_wp2
    go_ret
    exact ⟨ret_bool HE.out.symm, 0, rfl⟩
  have hn : ((a.length : Int) != (b.length : Int)) = false := by simp; omega
  have HL := Lib.hid hl
  clear hl
  go_enter Try.func26, Try.ntmps26
  go_wp2
  go_loopw [5] (fun i wr => ∃ k : Nat, k ≤ a.length ∧ i = .int .i64 k ∧ Hid (∀ j, j < k → nth a j = nth b j) ∧ (∃ n, wr = w.drewN n)) (fun i _ => a.length - (intOf i).toNat)
  case atStart => exact ⟨0, Nat.zero_le _, rfl, fun j hj => by omega, 0, rfl⟩
  case round =>
    obtain ⟨k, hk, rfl, hall, n0, hwr⟩ := hrel
    have HC1 := Lib.hid (show ∀ i, i < a.length → wr.cell? ⟨b1, off1 + i, none⟩ = some (.int .i64 (nth a i)) from fun i hi => hwr ▸ HC1.out i hi)
    have HC2 := Lib.hid (show ∀ i, i < b.length → wr.cell? ⟨b2, off2 + i, none⟩ = some (.int .i64 (nth b i)) from fun i hi => hwr ▸ HC2.out i hi)
    have HWR := Lib.hid (show ∀ m, ∃ n, wr.drewN m = w.drewN n from fun m => ⟨n0 + m, by rw [hwr, World.drewN_drewN]⟩)
    have HWR0 := Lib.hid (show ∃ n, wr = w.drewN n from ⟨n0, hwr⟩)
    clear hwr
    by_cases hlt : k < a.length
    · have hlt2 : k < b.length := by have := HL.out; omega
      obtain ⟨rfl, hb1⟩ := HA1.out (by omega)
      obtain ⟨rfl, hb2⟩ := HA2.out (by omega)
      have d1 := HC1.out k hlt
      have d2 := HC2.out k hlt2
      by_cases he : nth a k = nth b k
      · have hq : (nth a k != nth b k) = false := by simp [he]
        have HE := Lib.hid he
        clear he
        go_wp2
        go_quiet (fail)
        go_wp2
        exact ⟨⟨k + 1, by omega, by go_num, fun j hj => by by_cases e : j = k; exact e ▸ HE.out; exact hall.out j (by omega), HWR.out _⟩, by simp [intOf]; omega⟩
      · have hq : (nth a k != nth b k) = true := by simp [he]
        have HE := Lib.hid (show decide (a = b) = false from by simp; rintro rfl; exact he rfl)
        clear he
        go_wp2
        go_quiet (fail)
        go_wp2
        go_ret
        exact ⟨ret_bool HE.out.symm, HWR.out _⟩
    · obtain rfl : a.length = k := by omega
      have HE := Lib.hid (show decide (a = b) = true from by simp; exact list_ext_nth HL.out hall.out)
      go_wp2
      go_ret
      exact ⟨ret_bool HE.out.symm, HWR0.out⟩
theorem SameInts_to {v u : Value} {a b : List Int} {w : World} {B C : Nat} {r : Bool} (h : decide (a = b) = r) (hv : IntsAt B w v a) (hu : IntsAt C w u b) :
    Calls Try.prog 26 #[v, u] w fun e w' => e = .returned (.bool r) ∧ Below w.heap.size w w' :=
  (h ▸ SameInts_any v u a b w hv hu : Calls Try.prog 26 #[v, u] w fun e w' => e = .returned (.bool r) ∧ ∃ n, w' = w.drewN n).mono fun _ _ ⟨h1, n, h2⟩ => ⟨h1, h2 ▸ drewN_below (Below.refl _ _) n⟩
theorem cells_of {w : World} {b i : Nat} {cs : Array Value} {t : TypeId} {u : Value} (h : w.heap[b]? = some (.cells cs t)) (hi : cs[i]? = some u) : w.cell? ⟨b, i, none⟩ = some u := by
  simp [World.cell?, h, hi]

theorem lit2 (a b : Int) : ∀ i, i < [a, b].length → (#[Value.int .i64 a, .int .i64 b])[i]? = some (.int .i64 (nth [a, b] i))
  | 0, _ => rfl
  | 1, _ => rfl
  | i + 2, h => by simp at h; omega
theorem lit1 (a : Int) : ∀ i, i < [a].length → (#[Value.int .i64 a])[i]? = some (.int .i64 (nth [a] i))
  | 0, _ => rfl
  | i + 1, h => by simp at h
theorem ints_lit {B b : Nat} {w : World} {xs : List Int} {arr : Array Value} {t : TypeId} (h : w.heap[b]? = some (.cells arr t)) (hB : b < B) (_hs : arr.size = xs.length) (hc : ∀ i, i < xs.length → arr[i]? = some (.int .i64 (nth xs i))) (hw : ∀ x ∈ xs, I64 x) (hl : xs.length ≤ maxLen := by decide) :
    IntsAt B w (.slice (some ⟨b, 0, none⟩) xs.length xs.length) xs :=
  ⟨_, xs.length, b, 0, rfl, Nat.le_refl _, hl, fun _ => ⟨rfl, hB⟩, fun i hi => by rw [Nat.zero_add]; exact cells_of h (hc i hi), hw⟩


theorem heap_four (w : World) (o0 o1 o2 o3 : Obj) : ((((w.alloc o0).alloc o1).alloc o2).alloc o3).heap[w.heap.size]? = some o0 ∧ ((((w.alloc o0).alloc o1).alloc o2).alloc o3).heap[w.heap.size + 1]? = some o1 ∧
    ((((w.alloc o0).alloc o1).alloc o2).alloc o3).heap[w.heap.size + 1 + 1]? = some o2 ∧ ((((w.alloc o0).alloc o1).alloc o2).alloc o3).heap[w.heap.size + 1 + 1 + 1]? = some o3 ∧ Below w.heap.size w ((((w.alloc o0).alloc o1).alloc o2).alloc o3) := by
  have e2 := heap_new ((w.alloc o0).alloc o1) o2
  have e3 := heap_new (((w.alloc o0).alloc o1).alloc o2) o3
  rw [World.size_alloc, World.size_alloc] at e2
  rw [World.size_alloc, World.size_alloc, World.size_alloc] at e3
  refine ⟨?_, ?_, ?_, e3, (((((Below.refl _ w).alloc (Nat.le_refl _) o0).alloc (by simp) o1).alloc (by simp; omega) o2).alloc (by simp; omega) o3)⟩
  · rw [Below.heap_alloc _ _ _ (by simp <;> omega), Below.heap_alloc _ _ _ (by simp <;> omega)]; exact heap_old1 _ _ _
  · rw [Below.heap_alloc _ _ _ (by simp <;> omega), Below.heap_alloc _ _ _ (by simp <;> omega)]; exact heap_new1 _ _ _
  · rw [Below.heap_alloc _ _ _ (by simp)]; exact e2
def exK : Chain := ⟨[⟨1, 0, 0, 5, 1⟩, ⟨1, 1, 0, 5, 2⟩, ⟨1, 2, 0, 6, 1⟩, ⟨4, 0, 0, 0, 0⟩, ⟨2, 0, 2, 0, 0⟩, ⟨1, 0, 1, 7, 2⟩], [], 0⟩
def exS : Sight := ⟨6, 1, 0, 6, -1⟩
def exT : Sight := ⟨6, 0, 0, -1, 1⟩
def exCells : Array Value := #[.int .i64 1, .int .i64 0, .int .i64 0, .int .i64 5, .int .i64 1, .int .i64 1, .int .i64 1, .int .i64 0, .int .i64 5, .int .i64 2, .int .i64 1, .int .i64 2, .int .i64 0, .int .i64 6, .int .i64 1, .int .i64 4, .int .i64 0, .int .i64 0, .int .i64 0, .int .i64 0, .int .i64 2, .int .i64 0, .int .i64 2, .int .i64 0, .int .i64 0, .int .i64 1, .int .i64 0, .int .i64 1, .int .i64 7, .int .i64 2]

set_option maxRecDepth 100000 in
set_option maxHeartbeats 2000000 in
theorem Example_any (w : World) :
    Calls Try.prog 65 #[] w fun e w' => ∃ g t, e = .returned (.tuple #[.agg #[.slice (some ⟨g, 0, none⟩) 6 6, .slice none 0 0, .int .i64 0], sV exS, sV exT]) ∧ w'.heap[g]? = some (.cells exCells t) ∧ w.heap.size ≤ g ∧ Below w.heap.size w w' := by
  go_enter Try.func65, Try.ntmps65
  go_wp2
  obtain ⟨W, hW⟩ : ∃ W, W = (((w.alloc (.cells #[.slice (some ⟨w.heap.size + 1 + 1 + 1, 0, none⟩) 6 6, .slice none 0 0, .int .i64 0] 25)).alloc (.cells #[.int .i64 6, .int .i64 1, .int .i64 0, .int .i64 6, .int .i64 (-1)] 60)).alloc (.cells #[.int .i64 6, .int .i64 0, .int .i64 0, .int .i64 (-1), .int .i64 1] 60)).alloc (.cells exCells 55) := ⟨_, rfl⟩
  have h0 := heap_four w (.cells #[.slice (some ⟨w.heap.size + 1 + 1 + 1, 0, none⟩) 6 6, .slice none 0 0, .int .i64 0] 25) (.cells #[.int .i64 6, .int .i64 1, .int .i64 0, .int .i64 6, .int .i64 (-1)] 60) (.cells #[.int .i64 6, .int .i64 0, .int .i64 0, .int .i64 (-1), .int .i64 1] 60) (.cells exCells 55)
  rw [← hW] at h0
  unfold exCells at hW
  rw [← hW]
  obtain ⟨g0, g1, g2, g3, hb⟩ := h0
  have y0 := cells_of (i := 0) g0 rfl
  have y1 := cells_of (i := 1) g0 rfl
  have y2 := cells_of (i := 2) g0 rfl
  have z0 := cells_of (i := 0) g1 rfl
  have z1 := cells_of (i := 1) g1 rfl
  have z2 := cells_of (i := 2) g1 rfl
  have z3 := cells_of (i := 3) g1 rfl
  have z4 := cells_of (i := 4) g1 rfl
  have x0 := cells_of (i := 0) g2 rfl
  have x1 := cells_of (i := 1) g2 rfl
  have x2 := cells_of (i := 2) g2 rfl
  have x3 := cells_of (i := 3) g2 rfl
  have x4 := cells_of (i := 4) g2 rfl
  clear hW
  refine bodyPost_ret (v := .tuple #[.agg #[.slice (some ⟨w.heap.size + 1 + 1 + 1, 0, none⟩) 6 6, .slice none 0 0, .int .i64 0], sV exS, sV exT]) (by simp [results, Try.results65, go_sem, y0, y1, y2, z0, z1, z2, z3, z4, x0, x1, x2, x3, x4, sV, exS, exT]) rfl ⟨_, _, rfl, g3, by omega, hb⟩

end Go.Proofs.Ytgjikoebneiamaa
