/-
  Levers, walks: whether a balance is right.
-/
import Derived.Test.YtomcjopcfdllgaaVProduct

namespace Go.Proofs.Ytomcjopcfdllgaa
open Go.RowKit

theorem cells4 {W : World} {b : Nat} {v0 v1 v2 v3 : Value} {t : TypeId} (e : W.heap[b]? = some (.cells #[v0, v1, v2, v3] t)) :
    W.cell? ⟨b, 0, none⟩ = some v0 ∧ W.cell? ⟨b, 1, none⟩ = some v1 ∧ W.cell? ⟨b, 2, none⟩ = some v2 ∧ W.cell? ⟨b, 3, none⟩ = some v3 := by
  refine ⟨?_, ?_, ?_, ?_⟩ <;> simp [World.cell?, e]
theorem new2 (w : World) (o o' : Obj) : ((w.alloc o).alloc o').heap[w.heap.size + 1]? = some o' := by
  have := heap_new (w.alloc o) o'
  simpa using this
set_option maxHeartbeats 2000000 in
theorem visRight_any (M : Mach) (hV : ValidM M) (pb : Nat) (a0 a1 a2 leak : Int) (x : Bal) (w : World) (hb : pb < w.heap.size) (hx : x ∈ M.bals) (hl : 0 ≤ leak ∧ leak ≤ 20) (h0 : 1 ≤ a0 ∧ a0 ≤ 1000) (h1 : 1 ≤ a1 ∧ a1 ≤ 1000) (h2 : 1 ≤ a2 ∧ a2 ≤ 1000)
    (c1 : w.cell? ⟨pb, 1, none⟩ = some (.int .i64 M.water)) (c12 : w.cell? ⟨pb, 12, none⟩ = some (.int .i64 (longP M.levers))) :
    Calls Try.prog 67 #[.pointer (some ⟨pb, 0, none⟩), .agg #[.int .i64 a0, .int .i64 a1, .int .i64 a2, .int .i64 leak], bV x] w fun e w' => e = .returned (.bool (rightP M leak (a0 * a1 * a2) x)) ∧ Below w.heap.size w w' := by
  have hv := hV.bal x hx
  obtain ⟨x0, x1, x2, x3⟩ := x
  dsimp only at hv
  have HF := Lib.hid (fun (W : World) (hW : Below w.heap.size w W) => force_any M hV pb x0 x1 leak W hv.1 hv.2.1 hl ((hW.cell hb).trans c1) ((hW.cell hb).trans c12))
  have HP := Lib.hid (fun (W : World) => product_any a0 a1 a2 leak W h0 h1 h2)
  obtain ⟨f1, f2⟩ := force_ok hV hv.1 hv.2.1.1 hl.1
  have e1 : 0 ≤ a0 * a1 := Int.mul_nonneg (by omega) (by omega)
  have e2 : a0 * a1 ≤ 1000 * 1000 := mul_mono (by omega) (by omega) h0.2 h1.2
  have e3 : 0 ≤ a0 * a1 * a2 := Int.mul_nonneg e1 (by omega)
  have e4 : a0 * a1 * a2 ≤ 1000 * 1000 * 1000 := mul_mono e1 (by omega) e2 h2.2
  unfold rightP
  dsimp only
  obtain ⟨P, hP⟩ : ∃ P, a0 * a1 * a2 = P := ⟨_, rfl⟩
  obtain ⟨FV, hFV⟩ : ∃ FV, force M x0 x1 leak = FV := ⟨_, rfl⟩
  rw [hP] at e3 e4 HP ⊢
  rw [hFV] at f1 f2 HF ⊢
  have e5 : (x2 - x3) * P ≤ 999999999 * 1000000000 := Int.le_trans (Int.mul_le_mul_of_nonneg_right (show x2 - x3 ≤ 999999999 by omega) e3) (Int.mul_le_mul_of_nonneg_left (by omega) (by decide))
  have e6 : -(999999999 * 1000000000) ≤ (x2 - x3) * P := by
    have g1 : (x3 - x2) * P ≤ 999999999 * 1000000000 := Int.le_trans (Int.mul_le_mul_of_nonneg_right (show x3 - x2 ≤ 999999999 by omega) e3) (Int.mul_le_mul_of_nonneg_left (by omega) (by decide))
    have g2 : (x3 - x2) * P = -((x2 - x3) * P) := by rw [← Int.neg_mul]; congr 1; omega
    omega
  have e7 : 0 ≤ (x2 + x3) * P := Int.mul_nonneg (by omega) e3
  have e8 : (x2 + x3) * P ≤ 1999999998 * 1000000000 := Int.le_trans (Int.mul_le_mul_of_nonneg_right (show x2 + x3 ≤ 1999999998 by omega) e3) (Int.mul_le_mul_of_nonneg_left (by omega) (by decide))
  obtain ⟨X, hX⟩ : ∃ X, (x2 - x3) * P = X := ⟨_, rfl⟩
  obtain ⟨Y, hY⟩ : ∃ Y, (x2 + x3) * P = Y := ⟨_, rfl⟩
  rw [hX] at e5 e6 ⊢
  rw [hY] at e7 e8 ⊢
  have w1 : wrap64 ((x2 - x3) * P) = X := by rw [hX]; exact wrap_in (by omega)
  have w2 : wrap64 ((x2 + x3) * P) = Y := by rw [hY]; exact wrap_in (by omega)
  clear hX hY hP hFV c1 c12 e1 e2 e3 e4 f1 f2 h0 h1 h2 hx
  by_cases hl1 : X ≤ FV
  · by_cases hr : FV ≤ Y
    · go_enter Try.func67, Try.ntmps67
      go_wp2_with (first | (go_at_call 61; refine (HF.out _ (by go_grown)).mono ?_; rintro e w' ⟨rfl, rfl⟩) | (go_at_call 62; refine (HP.out _).mono ?_; rintro e w' ⟨rfl, hb2⟩; obtain ⟨q0, q1, q2, q3⟩ := cells4 ((hb2.block (w.heap.size + 1) (by simp)).trans (new2 w _ _)); have HFIN := Lib.hid ((show Below w.heap.size w _ by go_grown).trans (hb2.mono (by simp; try omega))); clear hb2))
      go_ret
      exact ⟨ret_bool (by simp [hl1, hr]), HFIN.out⟩
    · go_enter Try.func67, Try.ntmps67
      go_wp2_with (first | (go_at_call 61; refine (HF.out _ (by go_grown)).mono ?_; rintro e w' ⟨rfl, rfl⟩) | (go_at_call 62; refine (HP.out _).mono ?_; rintro e w' ⟨rfl, hb2⟩; obtain ⟨q0, q1, q2, q3⟩ := cells4 ((hb2.block (w.heap.size + 1) (by simp)).trans (new2 w _ _)); have HFIN := Lib.hid ((show Below w.heap.size w _ by go_grown).trans (hb2.mono (by simp; try omega))); clear hb2))
      go_ret
      exact ⟨ret_bool (by first | (simp [hl1]; done) | (simp [hl1]; omega)), HFIN.out⟩
  · go_enter Try.func67, Try.ntmps67
    go_wp2_with (first | (go_at_call 61; refine (HF.out _ (by go_grown)).mono ?_; rintro e w' ⟨rfl, rfl⟩) | (go_at_call 62; refine (HP.out _).mono ?_; rintro e w' ⟨rfl, hb2⟩; obtain ⟨q0, q1, q2, q3⟩ := cells4 ((hb2.block (w.heap.size + 1) (by simp)).trans (new2 w _ _)); have HFIN := Lib.hid ((show Below w.heap.size w _ by go_grown).trans (hb2.mono (by simp; try omega))); clear hb2))
    go_ret
    exact ⟨ret_bool (by first | (simp; done) | (simp; omega)), HFIN.out⟩
end Go.Proofs.Ytomcjopcfdllgaa
