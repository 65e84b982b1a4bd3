/-
  Levers, walks: small functions: within, valid spans and balances, division that rounds up, products of short arms, the pull.
  Levers, walks: the pull.
  Levers, walks: products of short arms.
  Levers, walks: whether a balance is right.
  Levers, walks: how many balances are not right.
  Levers, walks: how many products are less than a number.
-/
import Derived.Test.YtomcjopcfdllgaaVMem
import Derived.Lib.QuietBelow
import Derived.Shelf.RegionOpen

namespace Go.Proofs.Ytomcjopcfdllgaa
open Go.RowKit

set_option maxHeartbeats 400000 in
theorem vwithin_any (n lo hi : Int) (w : World) :
    Calls Try.prog 76 #[.int .i64 n, .int .i64 lo, .int .i64 hi] w fun e w' => e = .returned (.bool (wB n lo hi)) ∧ w = w' := by
  cases h : wB n lo hi
  · by_cases h0 : lo ≤ n
    · have h1 : ¬ n ≤ hi := by rcases wB_false.1 h with h1 | h1 <;> omega
      clear h
      go_enter Try.func76, Try.ntmps76
      go_wp2
      go_ret
      exact ⟨ret_bool (by first | (simp; done) | (simp; omega)), rfl⟩
    · clear h
      go_enter Try.func76, Try.ntmps76
      go_wp2
      go_ret
      exact ⟨ret_bool (by first | (simp; done) | (simp; omega)), rfl⟩
  · obtain ⟨h1, h2⟩ := wB_iff.1 h
    clear h
    go_enter Try.func76, Try.ntmps76
    go_wp2
    go_ret
    exact ⟨ret_bool (by first | (simp; done) | (simp; omega)), rfl⟩
theorem vwithin_to {n lo hi : Int} {b : Bool} (h : wB n lo hi = b) (w : World) :
    Calls Try.prog 76 #[.int .i64 n, .int .i64 lo, .int .i64 hi] w fun e w' => e = .returned (.bool b) ∧ w = w' := h ▸ vwithin_any n lo hi w

set_option maxHeartbeats 1000000 in
theorem validSpan_any (a b lo hi : Int) (w : World) :
    Calls Try.prog 83 #[.agg #[.int .i64 a, .int .i64 b], .int .i64 lo, .int .i64 hi] w fun e w' => e = .returned (.bool (decide (lo ≤ a) && decide (a ≤ b) && decide (b ≤ hi))) ∧ Below w.heap.size w w' := by
  by_cases h1 : lo ≤ a
  · by_cases h2 : a ≤ b
    · by_cases h3 : b ≤ hi
      · go_enter Try.func83, Try.ntmps83
        go_wp2
        go_ret
        exact ⟨ret_bool (by simp [h1, h2, h3]), by go_grown⟩
      · go_enter Try.func83, Try.ntmps83
        go_wp2
        go_ret
        exact ⟨ret_bool (by simp [h3]), by go_grown⟩
    · go_enter Try.func83, Try.ntmps83
      go_wp2
      go_ret
      exact ⟨ret_bool (by rw [show decide (a ≤ b) = false from decide_eq_false (by omega)]; simp), by go_grown⟩
  · go_enter Try.func83, Try.ntmps83
    go_wp2
    go_ret
    exact ⟨ret_bool (by rw [show decide (lo ≤ a) = false from decide_eq_false (by omega)]; simp), by go_grown⟩

def askB (weight minutes load off : Int) : Bool := wB weight 0 9999 && wB minutes 0 99 && wB load 0 999999999 && wB off 0 999999999
set_option maxHeartbeats 1000000 in
theorem validBalance_any (x0 x1 x2 x3 : Int) (w : World) :
    Calls Try.prog 80 #[.agg #[.int .i64 x0, .int .i64 x1, .int .i64 x2, .int .i64 x3]] w fun e w' => e = .returned (.bool (askB x0 x1 x2 x3)) ∧ Below w.heap.size w w' := by
  obtain ⟨b0, h0⟩ : ∃ b, wB x0 0 9999 = b := ⟨_, rfl⟩
  obtain ⟨b1, h1⟩ : ∃ b, wB x1 0 99 = b := ⟨_, rfl⟩
  obtain ⟨b2, h2⟩ : ∃ b, wB x2 0 999999999 = b := ⟨_, rfl⟩
  obtain ⟨b3, h3⟩ : ∃ b, wB x3 0 999999999 = b := ⟨_, rfl⟩
  have e : askB x0 x1 x2 x3 = (b0 && b1 && b2 && b3) := by simp only [askB, h0, h1, h2, h3]
  rw [e]
  have H0 := Lib.hid h0
  have H1 := Lib.hid h1
  have H2 := Lib.hid h2
  have H3 := Lib.hid h3
  clear e h0 h1 h2 h3
  cases b0
  case' true => cases b1
  case' true.true => cases b2
  case' true.true.true => cases b3
  all_goals
    go_enter Try.func80, Try.ntmps80
    go_wp2_with (go_at_call 76; refine (vwithin_any _ _ _ _).mono ?_; rintro e w' ⟨rfl, rfl⟩; first | rw [H0.out] | rw [H1.out] | rw [H2.out] | rw [H3.out])
    go_ret
    exact ⟨ret_bool (by simp), by go_grown⟩

set_option maxHeartbeats 1000000 in
theorem roundedUp_any (n b : Int) (w : World) (hn : 0 ≤ n ∧ n ≤ 1000000000000000) (hb : 1 ≤ b ∧ b ≤ 1000000000000000) :
    Calls Try.prog 63 #[.int .i64 n, .int .i64 b] w fun e w' => e = .returned (.int .i64 (upD n b)) ∧ w = w' := by
  have hb0 : ¬ b = 0 := by omega
  have h1 : (n + b - 1).tdiv b = upD n b := by unfold upD; exact Int.tdiv_eq_ediv_of_nonneg (by omega)
  have h2 : 0 ≤ upD n b := Int.ediv_nonneg (by omega) (by omega)
  have h3 : upD n b ≤ n + b - 1 := Int.ediv_le_self _ (by omega)
  have HU := Lib.hid h1
  clear h1
  go_enter Try.func63, Try.ntmps63
  go_wp2
  go_ret
  exact ⟨ret_int rfl, rfl⟩
end Go.Proofs.Ytomcjopcfdllgaa

namespace Go.Proofs.Ytomcjopcfdllgaa
open Go.RowKit

theorem wrap_in {n : Int} (h : -9223372036854775808 ≤ n ∧ n ≤ 9223372036854775807) : wrap64 n = n := by unfold wrap64; omega
set_option maxHeartbeats 1000000 in
theorem force_any (M : Mach) (hV : ValidM M) (b : Nat) (weight minutes leak : Int) (w : World) (hw : 0 ≤ weight ∧ weight ≤ 9999) (hm : 0 ≤ minutes ∧ minutes ≤ 99) (hl : 0 ≤ leak ∧ leak ≤ 20)
    (c1 : w.cell? ⟨b, 1, none⟩ = some (.int .i64 M.water)) (c12 : w.cell? ⟨b, 12, none⟩ = some (.int .i64 (longP M.levers))) :
    Calls Try.prog 61 #[.pointer (some ⟨b, 0, none⟩), .int .i64 weight, .int .i64 minutes, .int .i64 leak] w fun e w' => e = .returned (.int .i64 (force M weight minutes leak)) ∧ w = w' := by
  obtain ⟨l1, l2⟩ := long_ok hV
  obtain ⟨f1, f2⟩ := force_ok hV hw hm.1 hl.1
  have hwt := hV.water
  obtain ⟨ml, hml⟩ : ∃ x, minutes * leak = x := ⟨_, rfl⟩
  have m1 : 0 ≤ ml := hml ▸ Int.mul_nonneg hm.1 hl.1
  have m2 : ml ≤ 99 * 20 := hml ▸ mul_mono hm.1 hl.1 hm.2 hl.2
  obtain ⟨L, hL⟩ : ∃ L, longP M.levers = L := ⟨_, rfl⟩
  obtain ⟨wa, hwa⟩ : ∃ wa, M.water = wa := ⟨_, rfl⟩
  unfold force at f1 f2 ⊢
  rw [hL, hml, hwa] at f1 f2 ⊢
  rw [hL] at c12
  rw [hwa] at c1 hwt
  have w1 : wrap64 (minutes * leak) = ml := by rw [hml]; exact wrap_in (by omega)
  obtain ⟨FV, hFV⟩ : ∃ FV, (weight + max (wa - ml) 0) * L = FV := ⟨_, rfl⟩
  have w2 : wrap64 ((weight + max (wa - ml) 0) * L) = FV := by rw [hFV] at f1 f2 ⊢; exact wrap_in (by omega)
  rw [hFV]
  clear hFV hL hwa f1 f2 hml l1 l2
  have hmx : 0 ≤ max (wa - ml) 0 ∧ max (wa - ml) 0 ≤ 9999 := by omega
  go_enter Try.func61, Try.ntmps61
  go_wp2
  · rw [show max (wa - ml) 0 = 0 by omega, Int.add_zero] at w2
    go_ret
    exact ⟨ret_int w2, rfl⟩
  · rw [show max (wa - ml) 0 = wa - ml by omega] at w2
    go_ret
    exact ⟨ret_int w2, rfl⟩
end Go.Proofs.Ytomcjopcfdllgaa

namespace Go.Proofs.Ytomcjopcfdllgaa
open Go.RowKit

def partP (a0 a1 a2 : Int) : Nat → Int
  | 0 => 1
  | 1 => a0
  | 2 => a0 * a1
  | _ => a0 * a1 * a2
set_option maxRecDepth 100000 in
set_option maxHeartbeats 1000000 in
theorem product_any (a0 a1 a2 k : Int) (w : World) (h0 : 1 ≤ a0 ∧ a0 ≤ 1000) (h1 : 1 ≤ a1 ∧ a1 ≤ 1000) (h2 : 1 ≤ a2 ∧ a2 ≤ 1000) :
    Calls Try.prog 62 #[.agg #[.int .i64 a0, .int .i64 a1, .int .i64 a2, .int .i64 k]] w fun e w' => e = .returned (.int .i64 (a0 * a1 * a2)) ∧ Below w.heap.size w w' := by
  have e1 : 0 ≤ a0 * a1 := Int.mul_nonneg (by omega) (by omega)
  have e2 : a0 * a1 ≤ 1000 * 1000 := mul_mono (by omega) (by omega) h0.2 h1.2
  have e3 : 0 ≤ a0 * a1 * a2 := Int.mul_nonneg e1 (by omega)
  have e4 : a0 * a1 * a2 ≤ 1000 * 1000 * 1000 := mul_mono e1 (by omega) e2 h2.2
  have W1 := Lib.hid (show wrap64 (a0 * a1) = a0 * a1 from wrap_in (by omega))
  have W2 := Lib.hid (show wrap64 (a0 * a1 * a2) = a0 * a1 * a2 from wrap_in (by omega))
  have i0 : ∀ w, (Instr.index 81 (.agg #[.int .i64 a0, .int .i64 a1, .int .i64 a2]) (.int .i64 0)).run Try.prog w = .ok (.int .i64 a0) w := fun _ => by kernel_rfl
  have i1 : ∀ w, (Instr.index 81 (.agg #[.int .i64 a0, .int .i64 a1, .int .i64 a2]) (.int .i64 1)).run Try.prog w = .ok (.int .i64 a1) w := fun _ => by kernel_rfl
  have i2 : ∀ w, (Instr.index 81 (.agg #[.int .i64 a0, .int .i64 a1, .int .i64 a2]) (.int .i64 2)).run Try.prog w = .ok (.int .i64 a2) w := fun _ => by kernel_rfl
  go_enter Try.func62, Try.ntmps62
  go_wp2
  go_loopw [3, 8] (fun op oi wr => ∃ k : Nat, k ≤ 3 ∧ oi = .int .i64 k ∧ op = .int .i64 (partP a0 a1 a2 k) ∧ Below w.heap.size w wr) (fun _ i _ => 3 - (intOf i).toNat)
  case atStart => exact ⟨0, by omega, rfl, rfl, by go_grown⟩
  case round =>
    obtain ⟨k, hk, rfl, rfl, hb⟩ := hrel
    have HB := Lib.hid hb
    clear hb
    have hk4 : k = 0 ∨ k = 1 ∨ k = 2 ∨ k = 3 := by omega
    rcases hk4 with rfl | rfl | rfl | rfl
    · simp only [partP]
      go_wp2
      exact ⟨⟨1, by omega, by go_num, rfl, HB.out⟩, by simp [intOf]⟩
    · simp only [partP]
      have w1 := W1.out
      go_wp2
      exact ⟨⟨2, by omega, by go_num, rfl, HB.out⟩, by simp [intOf]⟩
    · simp only [partP]
      have w2 := W2.out
      go_wp2
      exact ⟨⟨3, by omega, by go_num, rfl, HB.out⟩, by simp [intOf]⟩
    · simp only [partP]
      go_wp2
      go_ret
      exact ⟨rfl, HB.out⟩
end Go.Proofs.Ytomcjopcfdllgaa

namespace Go.Proofs.Ytomcjopcfdllgaa
open Go.RowKit

theorem cells4 {W : World} {b : Nat} {v0 v1 v2 v3 : Value} {t : TypeId} (e : W.heap[b]? = some (.cells #[v0, v1, v2, v3] t)) :
    W.cell? ⟨b, 0, none⟩ = some v0 ∧ W.cell? ⟨b, 1, none⟩ = some v1 ∧ W.cell? ⟨b, 2, none⟩ = some v2 ∧ W.cell? ⟨b, 3, none⟩ = some v3 := by
  refine ⟨?_, ?_, ?_, ?_⟩ <;> simp [World.cell?, e]
theorem new2 (w : World) (o o' : Obj) : ((w.alloc o).alloc o').heap[w.heap.size + 1]? = some o' := by
  have := heap_new (w.alloc o) o'
  simpa using this
set_option maxHeartbeats 2000000 in
theorem visRight_any (M : Mach) (hV : ValidM M) (pb : Nat) (a0 a1 a2 leak : Int) (x : Bal) (w : World) (hb : pb < w.heap.size) (hx : x ∈ M.bals) (hl : 0 ≤ leak ∧ leak ≤ 20) (h0 : 1 ≤ a0 ∧ a0 ≤ 1000) (h1 : 1 ≤ a1 ∧ a1 ≤ 1000) (h2 : 1 ≤ a2 ∧ a2 ≤ 1000)
    (c1 : w.cell? ⟨pb, 1, none⟩ = some (.int .i64 M.water)) (c12 : w.cell? ⟨pb, 12, none⟩ = some (.int .i64 (longP M.levers))) :
    Calls Try.prog 67 #[.pointer (some ⟨pb, 0, none⟩), .agg #[.int .i64 a0, .int .i64 a1, .int .i64 a2, .int .i64 leak], bV x] w fun e w' => e = .returned (.bool (rightP M leak (a0 * a1 * a2) x)) ∧ Below w.heap.size w w' := by
  have hv := hV.bal x hx
  obtain ⟨x0, x1, x2, x3⟩ := x
  dsimp only at hv
  have HF := Lib.hid (fun (W : World) (hW : Below w.heap.size w W) => force_any M hV pb x0 x1 leak W hv.1 hv.2.1 hl ((hW.cell hb).trans c1) ((hW.cell hb).trans c12))
  have HP := Lib.hid (fun (W : World) => product_any a0 a1 a2 leak W h0 h1 h2)
  obtain ⟨f1, f2⟩ := force_ok hV hv.1 hv.2.1.1 hl.1
  have e1 : 0 ≤ a0 * a1 := Int.mul_nonneg (by omega) (by omega)
  have e2 : a0 * a1 ≤ 1000 * 1000 := mul_mono (by omega) (by omega) h0.2 h1.2
  have e3 : 0 ≤ a0 * a1 * a2 := Int.mul_nonneg e1 (by omega)
  have e4 : a0 * a1 * a2 ≤ 1000 * 1000 * 1000 := mul_mono e1 (by omega) e2 h2.2
  unfold rightP
  dsimp only
  obtain ⟨P, hP⟩ : ∃ P, a0 * a1 * a2 = P := ⟨_, rfl⟩
  obtain ⟨FV, hFV⟩ : ∃ FV, force M x0 x1 leak = FV := ⟨_, rfl⟩
  rw [hP] at e3 e4 HP ⊢
  rw [hFV] at f1 f2 HF ⊢
  have e5 : (x2 - x3) * P ≤ 999999999 * 1000000000 := Int.le_trans (Int.mul_le_mul_of_nonneg_right (show x2 - x3 ≤ 999999999 by omega) e3) (Int.mul_le_mul_of_nonneg_left (by omega) (by decide))
  have e6 : -(999999999 * 1000000000) ≤ (x2 - x3) * P := by
    have g1 : (x3 - x2) * P ≤ 999999999 * 1000000000 := Int.le_trans (Int.mul_le_mul_of_nonneg_right (show x3 - x2 ≤ 999999999 by omega) e3) (Int.mul_le_mul_of_nonneg_left (by omega) (by decide))
    have g2 : (x3 - x2) * P = -((x2 - x3) * P) := by rw [← Int.neg_mul]; congr 1; omega
    omega
  have e7 : 0 ≤ (x2 + x3) * P := Int.mul_nonneg (by omega) e3
  have e8 : (x2 + x3) * P ≤ 1999999998 * 1000000000 := Int.le_trans (Int.mul_le_mul_of_nonneg_right (show x2 + x3 ≤ 1999999998 by omega) e3) (Int.mul_le_mul_of_nonneg_left (by omega) (by decide))
  obtain ⟨X, hX⟩ : ∃ X, (x2 - x3) * P = X := ⟨_, rfl⟩
  obtain ⟨Y, hY⟩ : ∃ Y, (x2 + x3) * P = Y := ⟨_, rfl⟩
  rw [hX] at e5 e6 ⊢
  rw [hY] at e7 e8 ⊢
  have w1 : wrap64 ((x2 - x3) * P) = X := by rw [hX]; exact wrap_in (by omega)
  have w2 : wrap64 ((x2 + x3) * P) = Y := by rw [hY]; exact wrap_in (by omega)
  clear hX hY hP hFV c1 c12 e1 e2 e3 e4 f1 f2 h0 h1 h2 hx
  by_cases hl1 : X ≤ FV
  · by_cases hr : FV ≤ Y
    · go_enter Try.func67, Try.ntmps67
      go_wp2_with (first | (go_at_call 61; refine (HF.out _ (by go_grown)).mono ?_; rintro e w' ⟨rfl, rfl⟩) | (go_at_call 62; refine (HP.out _).mono ?_; rintro e w' ⟨rfl, hb2⟩; obtain ⟨q0, q1, q2, q3⟩ := cells4 ((hb2.block (w.heap.size + 1) (by simp)).trans (new2 w _ _)); have HFIN := Lib.hid ((show Below w.heap.size w _ by go_grown).trans (hb2.mono (by simp; try omega))); clear hb2))
      go_ret
      exact ⟨ret_bool (by simp [hl1, hr]), HFIN.out⟩
    · go_enter Try.func67, Try.ntmps67
      go_wp2_with (first | (go_at_call 61; refine (HF.out _ (by go_grown)).mono ?_; rintro e w' ⟨rfl, rfl⟩) | (go_at_call 62; refine (HP.out _).mono ?_; rintro e w' ⟨rfl, hb2⟩; obtain ⟨q0, q1, q2, q3⟩ := cells4 ((hb2.block (w.heap.size + 1) (by simp)).trans (new2 w _ _)); have HFIN := Lib.hid ((show Below w.heap.size w _ by go_grown).trans (hb2.mono (by simp; try omega))); clear hb2))
      go_ret
      exact ⟨ret_bool (by first | (simp [hl1]; done) | (simp [hl1]; omega)), HFIN.out⟩
  · go_enter Try.func67, Try.ntmps67
    go_wp2_with (first | (go_at_call 61; refine (HF.out _ (by go_grown)).mono ?_; rintro e w' ⟨rfl, rfl⟩) | (go_at_call 62; refine (HP.out _).mono ?_; rintro e w' ⟨rfl, hb2⟩; obtain ⟨q0, q1, q2, q3⟩ := cells4 ((hb2.block (w.heap.size + 1) (by simp)).trans (new2 w _ _)); have HFIN := Lib.hid ((show Below w.heap.size w _ by go_grown).trans (hb2.mono (by simp; try omega))); clear hb2))
    go_ret
    exact ⟨ret_bool (by first | (simp; done) | (simp; omega)), HFIN.out⟩
end Go.Proofs.Ytomcjopcfdllgaa

namespace Go.Proofs.Ytomcjopcfdllgaa
open Go.RowKit

/-- How many of the first k balances are not right. -/
def notTo (M : Mach) (leak P : Int) (k : Nat) : Nat := ((M.bals.take k).filter (fun b => !rightP M leak P b)).length
theorem notTo_succ {M : Mach} {leak P : Int} {k : Nat} (h : k < M.bals.length) : notTo M leak P (k + 1) = notTo M leak P k + (if rightP M leak P (bnth M.bals k) = true then 0 else 1) := by
  have e : M.bals.take (k + 1) = M.bals.take k ++ [bnth M.bals k] := by rw [bnth_lt h]; exact List.take_succ_eq_append_getElem h
  rw [notTo, e, List.filter_append, List.length_append, List.filter_cons, List.filter_nil]
  cases hh : rightP M leak P (bnth M.bals k) <;> simp [notTo]
theorem notTo_all (M : Mach) (leak P : Int) : notTo M leak P M.bals.length = wrongsP M leak P := by rw [notTo, List.take_length]; rfl
theorem notTo_le (M : Mach) (leak P : Int) (k : Nat) : notTo M leak P k ≤ M.bals.length := by
  have h1 := List.length_filter_le (fun b => !rightP M leak P b) (M.bals.take k)
  have h2 := List.length_take_le k M.bals
  unfold notTo
  rw [List.length_take] at h1
  omega

set_option maxHeartbeats 4000000 in
theorem notRight_any (M : Mach) (hV : ValidM M) (pb : Nat) (a0 a1 a2 leak : Int) (bv : Value) (w : World) (hb : pb < w.heap.size) (hl : 0 ≤ leak ∧ leak ≤ 20) (h0 : 1 ≤ a0 ∧ a0 ≤ 1000) (h1 : 1 ≤ a1 ∧ a1 ≤ 1000) (h2 : 1 ≤ a2 ∧ a2 ≤ 1000)
    (c1 : w.cell? ⟨pb, 1, none⟩ = some (.int .i64 M.water)) (c4 : w.cell? ⟨pb, 4, none⟩ = some bv) (c12 : w.cell? ⟨pb, 12, none⟩ = some (.int .i64 (longP M.levers))) (hB : BalsAt w.heap.size w bv M.bals) :
    Calls Try.prog 69 #[.pointer (some ⟨pb, 0, none⟩), .agg #[.int .i64 a0, .int .i64 a1, .int .i64 a2, .int .i64 leak]] w fun e w' => e = .returned (.int .i64 (wrongsP M leak (a0 * a1 * a2) : Nat)) ∧ Below w.heap.size w w' := by
  obtain ⟨P, hP⟩ : ∃ P, a0 * a1 * a2 = P := ⟨_, rfl⟩
  have HR := Lib.hid (fun (W : World) (x : Bal) (hx : x ∈ M.bals) (hW : Below w.heap.size w W) => visRight_any M hV pb a0 a1 a2 leak x W (by have := hW.size; omega) hx hl h0 h1 h2 ((hW.cell hb).trans c1) ((hW.cell hb).trans c12))
  rw [hP] at HR ⊢
  obtain ⟨a, cap, bb, off, rfl, hlen, hcap, hA, hC, hI⟩ := hB
  have hn6 := hV.nb
  have HA := Lib.hid hA
  have HC := Lib.hid hC
  have HALL := Lib.hid (notTo_all M leak P)
  have HLE := Lib.hid (notTo_le M leak P)
  have HBX := Lib.hid (fun k (h : k < M.bals.length) => show bnth M.bals k ∈ M.bals from by rw [bnth_lt h]; exact List.getElem_mem h)
  have HC4 := Lib.hid c4
  clear hA hC hI h0 h1 h2 c1 c12 hP hlen hcap
  go_enter Try.func69, Try.ntmps69
  go_wp2
  go_loopw [5, 14] (fun oc oi wr => ∃ k : Nat, k ≤ M.bals.length ∧ oi = .int .i64 k ∧ oc = .int .i64 (notTo M leak P k : Nat) ∧ Hid (Below (w.heap.size + 1) (w.alloc (.cells #[.int .i64 a0, .int .i64 a1, .int .i64 a2, .int .i64 leak] 83)) wr)) (fun _ i _ => M.bals.length - (intOf i).toNat)
  case atStart => exact ⟨0, Nat.zero_le _, rfl, rfl, Below.refl _ _⟩
  case round =>
    obtain ⟨k, hk, rfl, rfl, hbl⟩ := hrel
    have hk0 : (0 : Int) ≤ (k : Nat) := by omega
    have hbw : Below w.heap.size w wr := boxed hbl.out
    have hsz := boxed_size hbl.out
    have HBW := Lib.hid hbw
    have hle := HLE.out k
    by_cases hlt : k < M.bals.length
    · have hlt' : ((k : Nat) : Int) < (M.bals.length : Int) := by omega
      obtain ⟨rfl, hbb⟩ := HA.out (by omega)
      obtain ⟨d0, d1, d2, d3⟩ := (HC.out k hlt).below hbw hbb
      have hsb := (hbl.out.block w.heap.size (by omega)).trans (heap_new w _)
      obtain ⟨s0, s1, s2, s3⟩ := cells4 ((Below.heap_alloc wr (.cells #[.int .i64 (bnth M.bals k).weight, .int .i64 (bnth M.bals k).minutes, .int .i64 (bnth M.bals k).load, .int .i64 (bnth M.bals k).off] 51) _ (show w.heap.size < wr.heap.size by omega)).trans hsb)
      have hst := notTo_succ (M := M) (leak := leak) (P := P) hlt
      have HST := Lib.hid hst
      clear hst hbw hsb
      cases hr : rightP M leak P (bnth M.bals k)
      · have HRR := Lib.hid hr
        clear hr
        go_wp2_with (go_at_call 67; refine (HR.out _ _ (HBX.out k hlt) (HBW.out.trans (by go_grown))).mono ?_; rintro e w' ⟨rfl, hb2⟩; rw [HRR.out]; have HFIN := Lib.hid (hbl.out.trans ((show Below (w.heap.size + 1) wr _ by go_grown).trans (hb2.mono (by simp; omega)))); clear hb2)
        have hs1 : notTo M leak P (k + 1) = notTo M leak P k + 1 := by rw [HST.out, HRR.out]; rfl
        exact ⟨⟨k + 1, by omega, by go_num, by rw [hs1]; go_num, HFIN.out⟩, by simp [intOf]; omega⟩
      · have HRR := Lib.hid hr
        clear hr
        go_wp2_with (go_at_call 67; refine (HR.out _ _ (HBX.out k hlt) (HBW.out.trans (by go_grown))).mono ?_; rintro e w' ⟨rfl, hb2⟩; rw [HRR.out]; have HFIN := Lib.hid (hbl.out.trans ((show Below (w.heap.size + 1) wr _ by go_grown).trans (hb2.mono (by simp; omega)))); clear hb2)
        have hs1 : notTo M leak P (k + 1) = notTo M leak P k := by rw [HST.out, HRR.out]; rfl
        exact ⟨⟨k + 1, by omega, by go_num, by rw [hs1], HFIN.out⟩, by simp [intOf]; omega⟩
    · obtain rfl : M.bals.length = k := by omega
      go_wp2
      go_ret
      exact ⟨ret_int (by rw [← HALL.out]), HBW.out⟩
end Go.Proofs.Ytomcjopcfdllgaa

namespace Go.Proofs.Ytomcjopcfdllgaa
open Go.RowKit

/-- What pairs keep of how many products are less than each number. -/
def lessI (A B : Int × Int) : List Int := (lessL (wayN A B) (roomN A B)).map (fun k : Nat => (k : Int))
theorem lessI_len (A B : Int × Int) : (lessI A B).length = roomN A B + 1 := by simp [lessI, lessL]
theorem lessI_at {A B : Int × Int} {i : Nat} (h : i ≤ roomN A B) : nth (lessI A B) i = (posTo (wayN A B) i : Nat) := by
  have e := less_at (wayN A B) h
  rw [nth, List.getD_eq_getElem?_getD, lessI, List.getElem?_map, e]
  rfl

set_option maxHeartbeats 2000000 in
theorem below_any (A B : Int × Int) (av mv lv : Value) (n : Int) (w : World) (hn : 0 ≤ n ∧ n ≤ 1000000000000000) (hL : 0 ≤ A.1 * B.1 ∧ A.1 * B.1 ≤ 1000000) (hr : roomN A B ≤ 1000000) (hx : IntsAt w.heap.size w lv (lessI A B)) :
    Calls Try.prog 88 #[.agg #[av, mv, .int .i64 (A.1 * B.1), lv], .int .i64 n] w fun e w' => e = .returned (.int .i64 (posTo (wayN A B) (clampN A B n) : Nat)) ∧ Below w.heap.size w w' := by
  obtain ⟨a, cap, b, off, rfl, hlen, HA, HC, _⟩ := hx.opened
  have hl := lessI_len A B
  have hcl := clamp_le A B n
  have hat := lessI_at hcl
  have hc := HC.out (clampN A B n) (by omega)
  rw [hat] at hc
  obtain ⟨rfl, hb⟩ := HA.out (by omega)
  obtain ⟨R, hR⟩ : ∃ R, roomN A B = R := ⟨_, rfl⟩
  obtain ⟨L, hLL⟩ : ∃ L, A.1 * B.1 = L := ⟨_, rfl⟩
  obtain ⟨v, hv⟩ : ∃ v : Nat, posTo (wayN A B) (clampN A B n) = v := ⟨_, rfl⟩
  obtain ⟨i, hi⟩ : ∃ i : Nat, clampN A B n = i := ⟨_, rfl⟩
  have hi2 : i = (min (max (n - L) 0) (R : Int)).toNat := by rw [← hi, clampN, hLL, hR]
  rw [hv] at hc ⊢
  rw [hi] at hc hcl
  rw [hR] at hl hr hcl
  rw [hLL] at hL ⊢
  obtain ⟨N, hN⟩ : ∃ N, (lessI A B).length = N := ⟨_, rfl⟩
  rw [hN] at hl hlen ⊢
  have hN1 : ((N : Nat) : Int) - 1 = (R : Nat) := by omega
  have hN2 : (R : Int) < (N : Int) := by omega
  have hN3 : (0 : Int) < (N : Int) := by omega
  have hR0 : (0 : Int) ≤ (R : Nat) := by omega
  clear hx hat hv hi hR hLL hN hl
  have HCC := Lib.hid hc
  have HI2 := Lib.hid hi2
  clear hc hi2 HA HC
  by_cases c1 : n - L < 0
  · have e0 : i = 0 := by have := HI2.out; omega
    subst e0
    have hc : w.cell? ⟨b, off, none⟩ = some (.int .i64 v) := by simpa using HCC.out
    go_enter Try.func88, Try.ntmps88
    go_wp2
    go_ret
    exact ⟨rfl, by go_grown⟩
  · by_cases c2 : n - L < (R : Int)
    · have e0 : n - L = (i : Nat) := by have := HI2.out; omega
      have hc := HCC.out
      have hi0 : (0 : Int) ≤ (i : Nat) := by omega
      have hi1 : ((i : Nat) : Int) < (N : Int) := by omega
      go_enter Try.func88, Try.ntmps88
      go_wp2
      go_ret
      exact ⟨rfl, by go_grown⟩
    · by_cases c3 : n - L = (R : Int)
      · have e0 : i = R := by have := HI2.out; omega
        subst e0
        have hc := HCC.out
        go_enter Try.func88, Try.ntmps88
        go_wp2
        go_ret
        exact ⟨rfl, by go_grown⟩
      · have e0 : i = R := by have := HI2.out; omega
        subst e0
        have hc := HCC.out
        have c4 : (i : Int) < n - L := by omega
        clear c2 c3
        go_enter Try.func88, Try.ntmps88
        go_wp2
        go_ret
        exact ⟨rfl, by go_grown⟩
end Go.Proofs.Ytomcjopcfdllgaa
