/-
  Levers, walks: whether the load is at least some load in a setting.
-/
import Derived.Test.YtomcjopcfdllgaaVValid
import Derived.Deep.RegionWith

namespace Go.Proofs.Ytomcjopcfdllgaa
open Go.RowKit

set_option maxRecDepth 100000 in
set_option maxHeartbeats 2000000 in
theorem pulls_any (M : Mach) (hV : ValidM M) (pb : Nat) (a0 a1 a2 leak weight minutes load : Int) (w : World) (hb : pb < w.heap.size) (hw : 0 ≤ weight ∧ weight ≤ 9999) (hm : 0 ≤ minutes ∧ minutes ≤ 99) (hld : 0 ≤ load ∧ load ≤ 999999999) (hl : 0 ≤ leak ∧ leak ≤ 20) (h0 : 1 ≤ a0 ∧ a0 ≤ 1000) (h1 : 1 ≤ a1 ∧ a1 ≤ 1000) (h2 : 1 ≤ a2 ∧ a2 ≤ 1000)
    (c1 : w.cell? ⟨pb, 1, none⟩ = some (.int .i64 M.water)) (c12 : w.cell? ⟨pb, 12, none⟩ = some (.int .i64 (longP M.levers))) :
    Calls Try.prog 65 #[.pointer (some ⟨pb, 0, none⟩), .agg #[.int .i64 a0, .int .i64 a1, .int .i64 a2, .int .i64 leak], .int .i64 weight, .int .i64 minutes, .int .i64 load] w fun e w' => e = .returned (.bool (pullsB M weight minutes load leak (a0 * a1 * a2))) ∧ Below w.heap.size w w' := by
  have HF := Lib.hid (fun (W : World) (hW : Below w.heap.size w W) => force_any M hV pb weight minutes leak W hw hm hl ((hW.cell hb).trans c1) ((hW.cell hb).trans c12))
  have HP := Lib.hid (fun (W : World) => product_any a0 a1 a2 leak W h0 h1 h2)
  obtain ⟨f1, f2⟩ := force_ok hV hw hm.1 hl.1 (minutes := minutes)
  have e1 : 0 ≤ a0 * a1 := Int.mul_nonneg (by omega) (by omega)
  have e2 : a0 * a1 ≤ 1000 * 1000 := mul_mono (by omega) (by omega) h0.2 h1.2
  have e3 : 0 ≤ a0 * a1 * a2 := Int.mul_nonneg e1 (by omega)
  have e4 : a0 * a1 * a2 ≤ 1000 * 1000 * 1000 := mul_mono e1 (by omega) e2 h2.2
  unfold pullsB
  obtain ⟨FV, hFV⟩ : ∃ x, force M weight minutes leak = x := ⟨_, rfl⟩
  obtain ⟨P, hP⟩ : ∃ x, a0 * a1 * a2 = x := ⟨_, rfl⟩
  rw [hFV] at HF f1 f2 ⊢
  rw [hP] at HP e3 e4 ⊢
  have e5 : 0 ≤ load * P := Int.mul_nonneg hld.1 e3
  have e6 : load * P ≤ 999999999 * 1000000000 := mul_mono hld.1 e3 hld.2 (by omega)
  obtain ⟨X, hX⟩ : ∃ X, load * P = X := ⟨_, rfl⟩
  have w1 : wrap64 (load * P) = X := by rw [hX] at e5 e6 ⊢; exact wrap_in (by omega)
  have w2 : IntKind.i64.wrap (load * P) = X := by rw [hX] at e5 e6 ⊢; exact IntWalk.i64_in _ (by omega)
  rw [hX]
  clear hX hP hFV c1 c12 e1 e2 e3 e4 e5 e6 f1 f2 h0 h1 h2
  have HX : Hid (∀ W, Below w.heap.size w W → W.heap[w.heap.size]? = some (.cells #[.int .i64 a0, .int .i64 a1, .int .i64 a2, .int .i64 leak] 83) → True) := fun _ _ _ => trivial
  by_cases hc : X ≤ FV
  all_goals
    go_enter Try.func65, Try.ntmps65
    go_wp2
    go_region_with (first | (go_at_call 61; refine (HF.out _ (by go_grown)).mono ?_; rintro e w' ⟨rfl, rfl⟩) | (go_at_call 62; refine (HP.out _).mono ?_; rintro e w' ⟨rfl, hb2⟩; obtain ⟨q0, q1, q2, q3⟩ := cells4 ((hb2.block w.heap.size (by simp)).trans (heap_new w _)); have HFIN := Lib.hid ((show Below w.heap.size w _ by go_grown).trans (hb2.mono (by simp))); clear hb2))
    all_goals go_wp2
    all_goals go_ret
    all_goals exact ⟨ret_bool (by simp [hc]), HFIN.out⟩
end Go.Proofs.Ytomcjopcfdllgaa
