/-
  Levers, walks: a setting of a group; a machine at work, as memory holds it.
-/
import Derived.Test.YtomcjopcfdllgaaVPulls

namespace Go.Proofs.Ytomcjopcfdllgaa
open Go.RowKit

/-- The short arm of lever i, where lever lev has a and the two others q. -/
def armOf (lev : Nat) (a : Int) (q : Int × Int) (i : Nat) : Int := if i = lev then a else if i = (lev + 1) % 3 then q.1 else q.2
theorem armOf_prod {lev : Nat} (hl : lev < 3) (a : Int) (q : Int × Int) : armOf lev a q 0 * armOf lev a q 1 * armOf lev a q 2 = a * (q.1 * q.2) := by
  have h3 : lev = 0 ∨ lev = 1 ∨ lev = 2 := by omega
  rcases h3 with rfl | rfl | rfl
  · simp [armOf, Int.mul_assoc]
  · simp only [armOf]; simp; rw [Int.mul_comm q.2 a, Int.mul_assoc, Int.mul_comm q.2 q.1]
  · simp only [armOf]; simp; rw [Int.mul_comm (q.1 * q.2) a]
theorem armOf_self {lev : Nat} {a : Int} {q : Int × Int} : armOf lev a q lev = a := by simp [armOf]
theorem heap3 (w : World) (o1 o2 o3 : Obj) : (((w.alloc o1).alloc o2).alloc o3).heap[w.heap.size]? = some o1 ∧ (((w.alloc o1).alloc o2).alloc o3).heap[w.heap.size + 1]? = some o2 ∧ (((w.alloc o1).alloc o2).alloc o3).heap[w.heap.size + 1 + 1]? = some o3 := by
  refine ⟨?_, ?_, ?_⟩
  · rw [Below.heap_alloc _ _ _ (by simp; omega), Below.heap_alloc _ _ _ (by simp)]; exact heap_new w o1
  · rw [Below.heap_alloc _ _ _ (by simp)]
    have := heap_new (w.alloc o1) o2
    simpa using this
  · have := heap_new ((w.alloc o1).alloc o2) o3
    simpa using this
def put4 (w : World) (b : Nat) (v0 v1 v2 v3 : Value) : World := (((w.setCell ⟨b, 0, none⟩ v0).setCell ⟨b, 1, none⟩ v1).setCell ⟨b, 2, none⟩ v2).setCell ⟨b, 3, none⟩ v3
theorem put4_heap {w : World} {b : Nat} {v0 v1 v2 v3 z0 z1 z2 z3 : Value} {t : TypeId} (h : w.heap[b]? = some (.cells #[z0, z1, z2, z3] t)) : (put4 w b v0 v1 v2 v3).heap[b]? = some (.cells #[v0, v1, v2, v3] t) := by
  unfold put4
  rw [heap_setCell_same (heap_setCell_same (heap_setCell_same (heap_setCell_same h)))]
  rfl
theorem put4_below {B : Nat} {w W : World} {b : Nat} {v0 v1 v2 v3 : Value} (h : Below B w W) (hb : B ≤ b) : Below B w (put4 W b v0 v1 v2 v3) := below_setCell (below_setCell (below_setCell (below_setCell h hb) hb) hb) hb
/-- What is in it after k of the two others. -/
def setTo (lev : Nat) (a : Int) (q : Int × Int) (k i : Nat) : Int := if i = lev then a else if i = (lev + 1) % 3 then (if 0 < k then q.1 else 0) else if 1 < k then q.2 else 0
theorem cell2_of {W : World} {b : Nat} {v0 v1 : Value} {t : TypeId} (e : W.heap[b]? = some (.cells #[v0, v1] t)) : W.cell? ⟨b, 0, none⟩ = some v0 ∧ W.cell? ⟨b, 1, none⟩ = some v1 := by
  refine ⟨?_, ?_⟩ <;> simp [World.cell?, e]
theorem froz {W : World} {b : Nat} {arr : Array Value} {t : TypeId} (e : W.heap[b]? = some (.cells arr t)) (i : Nat) : W.frozen? ⟨b, i, none⟩ = false := frozen_of e i

set_option maxRecDepth 100000 in
set_option maxHeartbeats 4000000 in
theorem setting_any (pb lev : Nat) (hl : lev < 3) (k a : Int) (q : Int × Int) (w : World) (hb : pb < w.heap.size)
    (c13 : w.cell? ⟨pb, 13, none⟩ = some (.int .i64 lev)) (c14 : w.cell? ⟨pb, 14, none⟩ = some (.int .i64 ((lev + 1) % 3 : Nat))) (c15 : w.cell? ⟨pb, 15, none⟩ = some (.int .i64 ((lev + 2) % 3 : Nat))) :
    Calls Try.prog 89 #[.pointer (some ⟨pb, 0, none⟩), .int .i64 k, .int .i64 a, .agg #[.int .i64 q.1, .int .i64 q.2]] w fun e w' => e = .returned (.agg #[.int .i64 (armOf lev a q 0), .int .i64 (armOf lev a q 1), .int .i64 (armOf lev a q 2), .int .i64 k]) ∧ Below w.heap.size w w' := by
  obtain ⟨q1, q2⟩ := q
  have i0 : ∀ (x y : Int) w, (Instr.index 94 (.agg #[.int .i64 x, .int .i64 y]) (.int .i64 0)).run Try.prog w = .ok (.int .i64 x) w := fun _ _ _ => by kernel_rfl
  have i1 : ∀ (x y : Int) w, (Instr.index 94 (.agg #[.int .i64 x, .int .i64 y]) (.int .i64 1)).run Try.prog w = .ok (.int .i64 y) w := fun _ _ _ => by kernel_rfl
  obtain ⟨L0, e0⟩ : ∃ x : Int, ((lev : Nat) : Int) = x := ⟨_, rfl⟩
  obtain ⟨L1, e1⟩ : ∃ x : Int, (((lev + 1) % 3 : Nat) : Int) = x := ⟨_, rfl⟩
  obtain ⟨L2, e2⟩ : ∃ x : Int, (((lev + 2) % 3 : Nat) : Int) = x := ⟨_, rfl⟩
  rw [e0] at c13
  rw [e1] at c14
  rw [e2] at c15
  have h3 : (lev = 0 ∧ L0 = 0 ∧ L1 = 1 ∧ L2 = 2) ∨ (lev = 1 ∧ L0 = 1 ∧ L1 = 2 ∧ L2 = 0) ∨ (lev = 2 ∧ L0 = 2 ∧ L1 = 0 ∧ L2 = 1) := by omega
  clear e0 e1 e2
  rcases h3 with ⟨rfl, rfl, rfl, rfl⟩ | ⟨rfl, rfl, rfl, rfl⟩ | ⟨rfl, rfl, rfl, rfl⟩
  case' inl => obtain ⟨LV, hLV⟩ : ∃ x, x = 0 := ⟨_, rfl⟩
  case' inr.inl => obtain ⟨LV, hLV⟩ : ∃ x, x = 1 := ⟨_, rfl⟩
  case' inr.inr => obtain ⟨LV, hLV⟩ : ∃ x, x = 2 := ⟨_, rfl⟩
  all_goals
    have HLV := Lib.hid hLV
    clear hLV
    have hg : ∀ o1 o2 o3, Below w.heap.size w (((w.alloc o1).alloc o2).alloc o3) := fun _ _ _ => by go_grown
    have d13 := fun o1 o2 o3 => ((hg o1 o2 o3).cell hb).trans c13
    have d14 := fun o1 o2 o3 => ((hg o1 o2 o3).cell hb).trans c14
    have d15 := fun o1 o2 o3 => ((hg o1 o2 o3).cell hb).trans c15
    clear hg
    go_enter Try.func89, Try.ntmps89
    go_wp2
    go_loopw [25] (fun oi wr => ∃ k' : Nat, k' ≤ 2 ∧ oi = .int .i64 k' ∧ Below w.heap.size w wr ∧ wr.heap[w.heap.size]? = some (.cells #[.int .i64 q1, .int .i64 q2] 94) ∧
      wr.heap[w.heap.size + 1]? = some (.cells #[.int .i64 0, .int .i64 0, .int .i64 0, .int .i64 0] 83) ∧ wr.heap[w.heap.size + 1 + 1]? = some (.cells #[.int .i64 (setTo LV a (q1, q2) k' 0), .int .i64 (setTo LV a (q1, q2) k' 1), .int .i64 (setTo LV a (q1, q2) k' 2), .int .i64 k] 83)) (fun i _ => 2 - (intOf i).toNat)
    case atStart =>
      obtain ⟨n0, n1, n2⟩ := heap3 w (.cells #[.int .i64 q1, .int .i64 q2] 94) (.cells #[.int .i64 0, .int .i64 0, .int .i64 0, .int .i64 0] 83) (.cells #[.int .i64 (setTo LV a (q1, q2) 0 0), .int .i64 (setTo LV a (q1, q2) 0 1), .int .i64 (setTo LV a (q1, q2) 0 2), .int .i64 k] 83)
      obtain rfl := HLV.out
      exact ⟨0, by omega, rfl, by go_grown, n0, n1, n2⟩
    case round =>
      obtain ⟨k', hk, rfl, hbl, hx0, hx1, hx2⟩ := hrel
      obtain ⟨b0, b1⟩ := cell2_of hx0
      have z2 := froz hx2
      obtain ⟨u0, u1, u2, u3⟩ := cells4 hx1
      obtain ⟨y0, y1, y2, y3⟩ := cells4 hx2
      have z1 := froz hx1
      have HB := Lib.hid hbl
      have HX0 := Lib.hid hx0
      have HX1 := Lib.hid hx1
      have HX2 := Lib.hid hx2
      clear hbl hx0 hx1 hx2
      have hk3 : k' = 0 ∨ k' = 1 ∨ k' = 2 := by omega
      rcases hk3 with rfl | rfl | rfl
      · go_wp2
        refine ⟨⟨1, by omega, by go_num, below_setCell HB.out (by omega), (heap_setCell_other (by omega)).trans HX0.out, (heap_setCell_other (by omega)).trans HX1.out, ?_⟩, by simp [intOf]⟩
        rw [heap_setCell_same HX2.out]; simp [setTo, HLV.out]
      · go_wp2
        refine ⟨⟨2, by omega, by go_num, below_setCell HB.out (by omega), (heap_setCell_other (by omega)).trans HX0.out, (heap_setCell_other (by omega)).trans HX1.out, ?_⟩, by simp [intOf]⟩
        rw [heap_setCell_same HX2.out]; simp [setTo, HLV.out]
      · go_wp2
        have hput := put4_heap (v0 := .int .i64 (setTo LV a (q1, q2) 2 0)) (v1 := .int .i64 (setTo LV a (q1, q2) 2 1)) (v2 := .int .i64 (setTo LV a (q1, q2) 2 2)) (v3 := .int .i64 k) HX1.out
        obtain ⟨r0, r1, r2, r3⟩ := cells4 hput
        have hbf := put4_below (v0 := .int .i64 (setTo LV a (q1, q2) 2 0)) (v1 := .int .i64 (setTo LV a (q1, q2) 2 1)) (v2 := .int .i64 (setTo LV a (q1, q2) 2 2)) (v3 := .int .i64 k) HB.out (show w.heap.size ≤ w.heap.size + 1 by omega)
        unfold put4 at r0 r1 r2 r3 hbf
        refine bodyPost_ret (v := .agg #[.int .i64 (setTo LV a (q1, q2) 2 0), .int .i64 (setTo LV a (q1, q2) 2 1), .int .i64 (setTo LV a (q1, q2) 2 2), .int .i64 k]) (by simp [results, Try.results89, go_sem, r0, r1, r2, r3]) rfl ?_
        exact ⟨by simp [armOf, setTo, HLV.out], hbf⟩
end Go.Proofs.Ytomcjopcfdllgaa
