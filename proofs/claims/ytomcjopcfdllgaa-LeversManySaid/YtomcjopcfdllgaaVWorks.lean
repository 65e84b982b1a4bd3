/-
  Levers: the example of the chapter.
  Levers: equal numbers; the example's machine.
  Levers, the law's own functions: the example's answers.
-/
import Derived.Test.YtomcjopcfdllgaaVShorts
import Derived.Test.YtomcjopcfdllgaaVUntil
import Derived.Test.YtomcjopcfdllgaaVLoad
import Derived.BigQuiet

namespace Go.Proofs.Ytomcjopcfdllgaa
open Go.RowKit

def EX : Mach := { levers := [⟨100, 10, 11⟩, ⟨50, 5, 5⟩], water := 20, lkLo := 1, lkHi := 2, bals := [⟨10, 5, 2500, 250⟩], wrong := 0 }
theorem EX_valid : validMB EX = true := by decide +kernel
theorem EX_many : (truthsM EX).length = 2 := by decide +kernel
theorem EX_load : loadA EX 30 0 = ((4545, 5000), 0) := by decide +kernel
theorem EX_weight : weightA EX 10 4000 = (34, 0) := by decide +kernel
theorem EX_until : untilA EX 30 4000 = (6, 0) := by decide +kernel
theorem EX_arm (x : Int) : (∃ s ∈ truthsM EX, pad s.1 0 = x) ↔ x = 10 ∨ x = 11 := by
  have h : (truthsM EX).map (fun s => pad s.1 0) = [10, 11] := by decide +kernel
  constructor
  · rintro ⟨s, hs, rfl⟩
    have : pad s.1 0 ∈ (truthsM EX).map (fun s => pad s.1 0) := List.mem_map.2 ⟨s, hs, rfl⟩
    rw [h] at this
    simpa using this
  · intro hx
    have : x ∈ (truthsM EX).map (fun s => pad s.1 0) := by rw [h]; simpa using hx
    obtain ⟨s, hs, e⟩ := List.mem_map.1 this
    exact ⟨s, hs, e⟩
theorem EX_some : ¬ truthsM EX = [] := fun h => by have := EX_many; rw [h] at this; cases this
theorem EX_shorts {L : List Int} (h1 : L.Pairwise (· < ·)) (h2 : ∀ x, x ∈ L ↔ ∃ s ∈ truthsM EX, pad s.1 0 = x) : L = [10, 11] :=
  ansOf_one (xs := [10, 11]) ⟨h1, fun x => by rw [h2, EX_arm]; simp⟩ ⟨by simp, fun x => Iff.rfl⟩
end Go.Proofs.Ytomcjopcfdllgaa

namespace Go.Proofs.Ytomcjopcfdllgaa
open Go.RowKit Go.Shelf

theorem list_ext_nth {a b : List Int} (hl : a.length = b.length) (h : ∀ i, i < a.length → nth a i = nth b i) : a = b := by
  apply List.ext_getElem hl
  intro i h1 h2
  have := h i h1
  rwa [nth_lt h1, nth_lt h2] at this

set_option maxHeartbeats 1000000 in
theorem SameInts_any (v u : Value) (a b : List Int) (w : World) {B C : Nat} (hv : IntsAt B w v a) (hu : IntsAt C w u b) :
    Calls Try.prog 47 #[v, u] w fun e w' => e = .returned (.bool (decide (a = b))) ∧ ∃ n, w' = w.drewN n := by
  obtain ⟨a1, cap1, b1, off1, rfl, hm1, HA1, HC1, _⟩ := hv.opened
  obtain ⟨a2, cap2, b2, off2, rfl, hm2, HA2, HC2, _⟩ := hu.opened
  clear hv hu
  by_cases hl : a.length = b.length
  case neg =>
    have hn : ((a.length : Int) != (b.length : Int)) = true := by simp; omega
    have HE := Lib.hid (show decide (a = b) = false from by simp; rintro rfl; exact hl rfl)
    clear hl
    go_enter Try.func47, Try.ntmps47
    go_wp2
    go_ret
    exact ⟨ret_bool HE.out.symm, 0, rfl⟩
  have hn : ((a.length : Int) != (b.length : Int)) = false := by simp; omega
  have HL := Lib.hid hl
  clear hl
  go_enter Try.func47, Try.ntmps47
  go_wp2
  go_loopw [5] (fun i wr => ∃ k : Nat, k ≤ a.length ∧ i = .int .i64 k ∧ Hid (∀ j, j < k → nth a j = nth b j) ∧ (∃ n, wr = w.drewN n)) (fun i _ => a.length - (intOf i).toNat)
  case atStart => exact ⟨0, Nat.zero_le _, rfl, fun j hj => by omega, 0, rfl⟩
  case round =>
    obtain ⟨k, hk, rfl, hall, n0, hwr⟩ := hrel
    have HC1 := Lib.hid (show ∀ i, i < a.length → wr.cell? ⟨b1, off1 + i, none⟩ = some (.int .i64 (nth a i)) from fun i hi => hwr ▸ HC1.out i hi)
    have HC2 := Lib.hid (show ∀ i, i < b.length → wr.cell? ⟨b2, off2 + i, none⟩ = some (.int .i64 (nth b i)) from fun i hi => hwr ▸ HC2.out i hi)
    have HWR := Lib.hid (show ∀ m, ∃ n, wr.drewN m = w.drewN n from fun m => ⟨n0 + m, by rw [hwr, World.drewN_drewN]⟩)
    have HWR0 := Lib.hid (show ∃ n, wr = w.drewN n from ⟨n0, hwr⟩)
    clear hwr
    by_cases hlt : k < a.length
    · have hlt2 : k < b.length := by have := HL.out; omega
      obtain ⟨rfl, hb1⟩ := HA1.out (by omega)
      obtain ⟨rfl, hb2⟩ := HA2.out (by omega)
      have d1 := HC1.out k hlt
      have d2 := HC2.out k hlt2
      by_cases he : nth a k = nth b k
      · have hq : (nth a k != nth b k) = false := by simp [he]
        have HE := Lib.hid he
        clear he
        go_wp2
        go_quiet (fail)
        go_wp2
        exact ⟨⟨k + 1, by omega, by go_num, fun j hj => by by_cases e : j = k; exact e ▸ HE.out; exact hall.out j (by omega), HWR.out _⟩, by simp [intOf]; omega⟩
      · have hq : (nth a k != nth b k) = true := by simp [he]
        have HE := Lib.hid (show decide (a = b) = false from by simp; rintro rfl; exact he rfl)
        clear he
        go_wp2
        go_quiet (fail)
        go_wp2
        go_ret
        exact ⟨ret_bool HE.out.symm, HWR.out _⟩
    · obtain rfl : a.length = k := by omega
      have HE := Lib.hid (show decide (a = b) = true from by simp; exact list_ext_nth HL.out hall.out)
      go_wp2
      go_ret
      exact ⟨ret_bool HE.out.symm, HWR0.out⟩
theorem SameInts_to {v u : Value} {a b : List Int} {w : World} {B C : Nat} {r : Bool} (h : decide (a = b) = r) (hv : IntsAt B w v a) (hu : IntsAt C w u b) :
    Calls Try.prog 47 #[v, u] w fun e w' => e = .returned (.bool r) ∧ Below w.heap.size w w' :=
  (h ▸ SameInts_any v u a b w hv hu : Calls Try.prog 47 #[v, u] w fun e w' => e = .returned (.bool r) ∧ ∃ n, w' = w.drewN n).mono fun _ _ ⟨h1, n, h2⟩ => ⟨h1, h2 ▸ drewN_below (Below.refl _ _) n⟩
end Go.Proofs.Ytomcjopcfdllgaa

namespace Go.Proofs.Ytomcjopcfdllgaa
open Go.RowKit Go.Shelf

theorem cells_of {w : World} {b i : Nat} {cs : Array Value} {t : TypeId} {u : Value} (h : w.heap[b]? = some (.cells cs t)) (hi : cs[i]? = some u) : w.cell? ⟨b, i, none⟩ = some u := by
  simp [World.cell?, h, hi]
def exLCells : Array Value := #[.int .i64 100, .int .i64 10, .int .i64 11, .int .i64 50, .int .i64 5, .int .i64 5]
def exBCells : Array Value := #[.int .i64 10, .int .i64 5, .int .i64 2500, .int .i64 250]
def exV (g h : Nat) : Value := .agg #[.slice (some ⟨g, 0, none⟩) 2 2, .int .i64 20, .int .i64 1, .int .i64 2, .slice (some ⟨h, 0, none⟩) 1 1, .int .i64 0]
theorem ex_at {g h : Nat} {t u : TypeId} {W : World} (hg : W.heap[g]? = some (.cells exLCells t)) (hh : W.heap[h]? = some (.cells exBCells u)) : MachAt W.heap.size W (exV g h) EX := by
  refine ⟨_, _, rfl, ⟨_, 2, g, 0, rfl, Nat.le_refl _, by unfold maxLen; omega, fun _ => ⟨rfl, heap_lt hg⟩, fun i hi => ?_, fun i hi => ?_⟩, ⟨_, 1, h, 0, rfl, Nat.le_refl _, by unfold maxLen; omega, fun _ => ⟨rfl, heap_lt hh⟩, fun i hi => ?_, fun i hi => ?_⟩, ⟨by decide, by decide⟩, ⟨by decide, by decide⟩, ⟨by decide, by decide⟩, ⟨by decide, by decide⟩⟩
  · match i, hi with
    | 0, _ => exact ⟨cells_of hg rfl, cells_of hg rfl, cells_of hg rfl⟩
    | 1, _ => exact ⟨cells_of hg rfl, cells_of hg rfl, cells_of hg rfl⟩
  · match i, hi with
    | 0, _ => exact ⟨⟨by decide, by decide⟩, ⟨by decide, by decide⟩, ⟨by decide, by decide⟩⟩
    | 1, _ => exact ⟨⟨by decide, by decide⟩, ⟨by decide, by decide⟩, ⟨by decide, by decide⟩⟩
  · match i, hi with
    | 0, _ => exact ⟨cells_of hh rfl, cells_of hh rfl, cells_of hh rfl, cells_of hh rfl⟩
  · match i, hi with
    | 0, _ => exact ⟨⟨by decide, by decide⟩, ⟨by decide, by decide⟩, ⟨by decide, by decide⟩, ⟨by decide, by decide⟩⟩

theorem heap3w (w : World) (o0 o1 o2 : Obj) : (((w.alloc o0).alloc o1).alloc o2).heap[w.heap.size]? = some o0 ∧ (((w.alloc o0).alloc o1).alloc o2).heap[w.heap.size + 1]? = some o1 ∧ (((w.alloc o0).alloc o1).alloc o2).heap[w.heap.size + 1 + 1]? = some o2 ∧
    Below w.heap.size w (((w.alloc o0).alloc o1).alloc o2) ∧ (((w.alloc o0).alloc o1).alloc o2).heap.size = w.heap.size + 3 := by
  refine ⟨?_, ?_, ?_, (((Below.refl _ w).alloc (Nat.le_refl _) _).alloc (by simp) _).alloc (by simp; omega) _, by simp⟩
  · rw [Below.heap_alloc _ _ _ (by simp <;> omega)]; exact heap_old1 _ _ _
  · rw [Below.heap_alloc _ _ _ (by simp)]; exact heap_new1 _ _ _
  · have := World.alloc_heap_new ((w.alloc o0).alloc o1) o2
    simpa using this
set_option maxRecDepth 100000 in
set_option maxHeartbeats 2000000 in
theorem Example_any (w : World) : Calls Try.prog 54 #[] w fun e w' => ∃ g h, e = .returned (exV g h) ∧ MachAt w'.heap.size w' (exV g h) EX ∧ Below w.heap.size w w' := by
  go_enter Try.func54, Try.ntmps54
  go_wp2
  obtain ⟨h0, h1, h2, hb, hs⟩ := heap3w w (.cells #[.slice (some ⟨w.heap.size + 1, 0, none⟩) 2 2, .int .i64 20, .int .i64 1, .int .i64 2, .slice (some ⟨w.heap.size + 1 + 1, 0, none⟩) 1 1, .int .i64 0] 27) (.cells exLCells 63) (.cells exBCells 51)
  obtain ⟨r0, r1, r2, r3, r4, r5⟩ := cells6 h0
  unfold exLCells exBCells at r0 r1 r2 r3 r4 r5
  refine bodyPost_ret (v := exV (w.heap.size + 1) (w.heap.size + 1 + 1)) (by simp [results, Try.results54, go_sem, exV, r0, r1, r2, r3, r4, r5]) rfl ?_
  exact ⟨_, _, rfl, ex_at h1 h2, hb⟩
theorem lit2 (a b : Int) : ∀ i, i < [a, b].length → (#[Value.int .i64 a, .int .i64 b])[i]? = some (.int .i64 (nth [a, b] i))
  | 0, _ => rfl
  | 1, _ => rfl
  | i + 2, h => by simp at h; omega
theorem ints_lit {B b : Nat} {w : World} {xs : List Int} {arr : Array Value} {t : TypeId} (h : w.heap[b]? = some (.cells arr t)) (hB : b < B) (_hs : arr.size = xs.length) (hc : ∀ i, i < xs.length → arr[i]? = some (.int .i64 (nth xs i))) (hw : ∀ x ∈ xs, I64 x) (hl : xs.length ≤ maxLen := by decide) :
    IntsAt B w (.slice (some ⟨b, 0, none⟩) xs.length xs.length) xs :=
  ⟨_, xs.length, b, 0, rfl, Nat.le_refl _, hl, fun _ => ⟨rfl, hB⟩, fun i hi => by rw [Nat.zero_add]; exact cells_of h (hc i hi), hw⟩
theorem ManyE {g h : Nat} {w : World} (hx : MachAt w.heap.size w (exV g h) EX) : Calls Try.prog 28 #[exV g h] w fun e w' => e = .returned (.tuple #[.int .i64 2, .int .i64 0]) ∧ Below w.heap.size w w' := by
  have := Many_any _ EX w hx EX_valid
  rw [EX_many] at this
  exact this
theorem ShortsE {g h : Nat} {w : World} (hx : MachAt w.heap.size w (exV g h) EX) : Calls Try.prog 15 #[exV g h, .int .i64 0] w fun e w' => ∃ v, e = .returned (.tuple #[v, .int .i64 0]) ∧ IntsAt w'.heap.size w' v [10, 11] ∧ Below w.heap.size w w' := by
  refine (Shorts_any _ EX 0 w hx EX_valid (by decide)).mono ?_
  rintro e w' ⟨hA, hb⟩
  obtain ⟨v, L, rfl, ⟨h1, h2⟩, h3⟩ := hA.2 EX_some
  have hL := EX_shorts h1 h2
  subst hL
  exact ⟨v, rfl, ints_of_own h3 (by intro x hx; simp at hx; rcases hx with rfl | rfl <;> exact ⟨by decide, by decide⟩), hb⟩
theorem LoadE {g h : Nat} {w : World} (hx : MachAt w.heap.size w (exV g h) EX) : Calls Try.prog 18 #[exV g h, .int .i64 30, .int .i64 0] w fun e w' => e = .returned (.tuple #[.agg #[.int .i64 4545, .int .i64 5000], .int .i64 0]) ∧ Below w.heap.size w w' := by
  have := Load_any _ EX 30 0 w hx EX_valid (by decide)
  rw [EX_load] at this
  exact this
theorem WeightE {g h : Nat} {w : World} (hx : MachAt w.heap.size w (exV g h) EX) : Calls Try.prog 35 #[exV g h, .int .i64 10, .int .i64 4000] w fun e w' => e = .returned (.tuple #[.int .i64 34, .int .i64 0]) ∧ Below w.heap.size w w' := by
  have := Weight_any _ EX 10 4000 w hx EX_valid (by decide)
  rw [EX_weight] at this
  exact this
theorem UntilE {g h : Nat} {w : World} (hx : MachAt w.heap.size w (exV g h) EX) : Calls Try.prog 36 #[exV g h, .int .i64 30, .int .i64 4000] w fun e w' => e = .returned (.tuple #[.int .i64 6, .int .i64 0]) ∧ Below w.heap.size w w' := by
  have := Until_any _ EX 30 4000 w hx EX_valid (by decide)
  rw [EX_until] at this
  exact this

set_option maxRecDepth 100000 in
set_option maxHeartbeats 4000000 in
theorem works_any (w : World) : Calls Try.prog 14 #[] w fun e w' => e = .returned (.bool true) ∧ Below w.heap.size w w' := by
  go_enter Try.func14, Try.ntmps14
  go_wp2_with fail
  refine (Example_any _).mono ?_
  rintro e w1 ⟨g, h, rfl, hm, hb1⟩
  obtain ⟨W, hW⟩ : ∃ W, W = w1.alloc (.cells #[.slice (some ⟨g, 0, none⟩) 2 2, .int .i64 20, .int .i64 1, .int .i64 2, .slice (some ⟨h, 0, none⟩) 1 1, .int .i64 0] 27) := ⟨_, rfl⟩
  have hsW : W.heap.size = w1.heap.size + 1 := by rw [hW]; simp
  have hbW : Below w1.heap.size w1 W := by rw [hW]; exact (Below.refl _ w1).alloc (Nat.le_refl _) _
  have hnW : W.heap[w1.heap.size]? = some (.cells #[.slice (some ⟨g, 0, none⟩) 2 2, .int .i64 20, .int .i64 1, .int .i64 2, .slice (some ⟨h, 0, none⟩) 1 1, .int .i64 0] 27) := by rw [hW]; exact heap_new _ _
  have HM := Lib.hid (fun (X : World) (hX : Below W.heap.size W X) => show MachAt X.heap.size X (exV g h) EX from (hm.below (hbW.trans (hX.mono hbW.size))).mono (Nat.le_trans hbW.size hX.size))
  have HC := Lib.hid (fun (X : World) (hX : Below W.heap.size W X) => cells6 ((hX.block w1.heap.size (by omega)).trans hnW))
  have HBW := Lib.hid (hb1.trans (hbW.mono hb1.size))
  have HSW := Lib.hid hsW
  simp only [exV]
  clear hm hb1 hbW hnW
  go_wp2_with fail
  rw [← hW]
  clear hW hsW
  refine (ManyE (HM.out W (Below.refl _ _))).mono ?_
  rintro e w2 ⟨rfl, hb⟩
  have HB2 := Lib.hid hb
  obtain ⟨c0, c1, c2, c3, c4, c5⟩ := HC.out w2 hb
  clear hb
  go_wp2_with fail
  refine (ShortsE (HM.out w2 HB2.out)).mono ?_
  rintro e w3 ⟨v3, rfl, hv3, hb⟩
  obtain ⟨a3, k3, b3, o3, rfl, _⟩ := hv3.opened
  have HV3 := Lib.hid hv3
  have HB3 := Lib.hid (HB2.out.trans (hb.mono HB2.out.size))
  clear c0 c1 c2 c3 c4 c5 hb hv3
  obtain ⟨c0, c1, c2, c3, c4, c5⟩ := HC.out w3 HB3.out
  go_wp2_with fail
  refine (LoadE (HM.out w3 HB3.out)).mono ?_
  rintro e w4 ⟨rfl, hb⟩
  have HV4 := Lib.hid ((HV3.out.below hb).mono hb.size)
  have HB4 := Lib.hid (HB3.out.trans (hb.mono HB3.out.size))
  clear c0 c1 c2 c3 c4 c5 hb HV3
  have hbX := HB4.out.alloc HB4.out.size (.cells #[.int .i64 4545, .int .i64 5000] 24)
  obtain ⟨c0, c1, c2, c3, c4, c5⟩ := HC.out _ hbX
  have hnX := heap_new w4 (.cells #[.int .i64 4545, .int .i64 5000] 24)
  have HVX := Lib.hid ((HV4.out.below ((Below.refl _ w4).alloc (Nat.le_refl _) (.cells #[.int .i64 4545, .int .i64 5000] 24))).mono (B' := (w4.alloc (.cells #[.int .i64 4545, .int .i64 5000] 24)).heap.size) (by simp))
  have HNX := Lib.hid hnX
  have HBX := Lib.hid hbX
  clear hnX hbX HV4
  go_wp2_with fail
  obtain ⟨X, hX⟩ : ∃ X, X = w4.alloc (.cells #[.int .i64 4545, .int .i64 5000] 24) := ⟨_, rfl⟩
  rw [← hX] at HVX HNX HBX ⊢
  clear hX c0 c1 c2 c3 c4 c5
  have hlX := heap_lt HNX.out
  refine (WeightE (HM.out X HBX.out)).mono ?_
  rintro e w5 ⟨rfl, hb⟩
  have HB5 := Lib.hid hb
  have HBW5 := Lib.hid (HBX.out.trans (hb.mono HBX.out.size))
  clear hb
  obtain ⟨c0, c1, c2, c3, c4, c5⟩ := HC.out w5 HBW5.out
  go_wp2_with fail
  refine (UntilE (HM.out w5 HBW5.out)).mono ?_
  rintro e w6 ⟨rfl, hb⟩
  have HB6 := Lib.hid (HB5.out.trans (hb.mono HB5.out.size))
  have HBW6 := Lib.hid (HBW5.out.trans (hb.mono HBW5.out.size))
  have HV6 := Lib.hid ((HVX.out.below HB6.out).mono HB6.out.size)
  clear hb c0 c1 c2 c3 c4 c5
  go_wp2_with fail
  refine (SameInts_to (r := true) (by decide) (HV6.out.below ((Below.refl _ w6).alloc (Nat.le_refl _) (.cells #[.int .i64 10, .int .i64 11] 3))) (ints_lit (B := w6.heap.size + 1) (xs := [10, 11]) (heap_new w6 _) (by omega) rfl (lit2 _ _) (by intro x hx; simp at hx; rcases hx with rfl | rfl <;> exact ⟨by decide, by decide⟩))).mono ?_
  rintro e w7 ⟨rfl, hb⟩
  have hb7 : Below w6.heap.size w6 w7 := ((Below.refl _ w6).alloc (Nat.le_refl _) _).trans (hb.mono (by simp))
  obtain ⟨s0, s1⟩ := cell2_of ((hb7.block w4.heap.size (by have := HB6.out.size; omega)).trans ((HB6.out.block w4.heap.size hlX).trans HNX.out))
  have HF7 := Lib.hid (show Below w.heap.size w w7 from by
    have h1 := HBW.out.trans (HBW6.out.mono HBW.out.size)
    exact h1.trans (hb7.mono h1.size))
  clear hb hb7
  go_wp2
  go_ret
  exact ⟨rfl, HF7.out⟩
end Go.Proofs.Ytomcjopcfdllgaa
