/-
  Links, walks: the first sight that is not right.
-/
import Derived.Test.YtgjikoebneiamaaLSeq1

namespace Go.Proofs.Ytgjikoebneiamaa
open Go.RowKit Go.Sort

/-- The first of the first k sights that is not right; -1: there is none. -/
def badTo (C : Chain) (x : List Int) : Nat → Int
  | 0 => -1
  | k + 1 => if 0 ≤ badTo C x k then badTo C x k else if rightB C.deeds x (snth C.sights k) = true then -1 else k
theorem badTo_bound (C : Chain) (x : List Int) : ∀ k, -1 ≤ badTo C x k ∧ badTo C x k < k
  | 0 => by simp [badTo]
  | k + 1 => by have := badTo_bound C x k; simp only [badTo]; push_cast; split <;> (try split) <;> omega
theorem badTo_stay {C : Chain} {x : List Int} {j : Nat} (h : 0 ≤ badTo C x j) : ∀ {k : Nat}, j ≤ k → badTo C x k = badTo C x j
  | 0, hk => by obtain rfl : j = 0 := by omega
                rfl
  | k + 1, hk => by
    by_cases e : j = k + 1
    · subst e; rfl
    · have ih := badTo_stay h (k := k) (by omega)
      simp only [badTo, ih, if_pos h]

set_option maxRecDepth 100000 in
set_option maxHeartbeats 2000000 in
theorem ixf_any (sv : Value) (C : Chain) (x : List Int) (g : FuncId) (lb : Array Value) (w : World) (hns : C.sights.length ≤ 8) (hs : SightsAt w.heap.size w sv C.sights)
    (eg : ∀ args w, (callFunc g args).run Try.prog w = .ok (.enter g args) w)
    (hask : ∀ k, k < C.sights.length → ∀ W, Below w.heap.size w W → Calls Try.prog g (#[sV (snth C.sights k)] ++ lb) W fun e w' => e = .returned (.bool (!rightB C.deeds x (snth C.sights k))) ∧ Below W.heap.size W w') :
    Calls Try.prog 91 #[sv, .func (.func g) #[] lb] w fun e w' => e = .returned (.int .i64 (badTo C x C.sights.length)) ∧ Below w.heap.size w w' := by
  obtain ⟨a2, cap2, b2, off2, rfl, hm2, HA2, HC2, HI2⟩ := hs.opened
  have HASK := Lib.hid hask
  clear hs hask HI2
  go_enter Try.func91, Try.ntmps91
  go_wp2_with fail
  go_loopw [8] (fun i wr => ∃ k : Nat, k ≤ C.sights.length ∧ i = .int .i64 k ∧ badTo C x k < 0 ∧ Below w.heap.size w wr) (fun i _ => C.sights.length - (intOf i).toNat)
  case atStart => exact ⟨0, Nat.zero_le _, rfl, by simp [badTo], Below.refl _ _⟩
  case round =>
    obtain ⟨k, hk, rfl, hbad, hbl⟩ := hrel
    have HBL := Lib.hid hbl
    by_cases hlt : k < C.sights.length
    · obtain ⟨rfl, hbB⟩ := HA2.out (by omega)
      obtain ⟨d0, d1, d2, d3, d4⟩ := (HC2.out k hlt).below hbl hbB
      have hsz := hbl.size
      have hc := HASK.out k hlt wr hbl
      have HC := Lib.hid hc
      have HB := Lib.hid hbad
      clear hc hbl hbad
      cases hr : rightB C.deeds x (snth C.sights k)
      all_goals
        have HR := Lib.hid hr
        rw [hr] at HC
        clear hr
        go_wp2_with fail
        refine HC.out.mono ?_
        rintro e w' ⟨rfl, hb'⟩
        have HBL2 := Lib.hid (HBL.out.trans (hb'.mono hsz))
        clear hb'
        go_wp2_with fail
      · go_ret
        have e1 : badTo C x (k + 1) = k := by simp only [badTo, HR.out, if_neg (show ¬ 0 ≤ badTo C x k by have := HB.out; omega)]; rfl
        exact ⟨by rw [badTo_stay (j := k + 1) (by omega) (by omega), e1]; rfl, HBL2.out⟩
      · exact ⟨⟨k + 1, by omega, by go_num, by simp only [badTo, HR.out, if_neg (show ¬ 0 ≤ badTo C x k by have := HB.out; omega), if_true]; omega, HBL2.out⟩, by simp [intOf]; omega⟩
    · obtain rfl : C.sights.length = k := by omega
      have HB := Lib.hid hbad
      clear hbad
      go_wp2_with fail
      go_ret
      exact ⟨by rw [show badTo C x C.sights.length = -1 by have := badTo_bound C x C.sights.length; have := HB.out; omega]; rfl, hbl⟩

set_option maxRecDepth 100000 in
set_option maxHeartbeats 2000000 in
theorem firstAsk_any (dv sv mv : Value) (C : Chain) (hV : Valid C) (x : List Int) (s : Sight) (hs : sightAll C.deeds s = true) (Bp Bm b4 b7 : Nat) (t : TypeId) (w : World) {B : Nat} (hx : BookAt B w (.agg #[dv, sv, .int .i64 C.wrong, mv]) C) (hB : B ≤ w.heap.size)
    (h4 : w.heap[b4]? = some (.cells #[dv, sv, .int .i64 C.wrong, mv] 84)) (h7 : w.heap[b7]? = some (.cells #[pastV C.deeds.length Bp] t))
    (hp : PastTo C.deeds.length Bp Bm (story C.deeds x) C.deeds.length w) :
    Calls Try.prog 92 #[sV s, .pointer (some ⟨b4, 0, none⟩), .pointer (some ⟨b7, 0, none⟩)] w fun e w' => e = .returned (.bool (!rightB C.deeds x s)) ∧ Below w.heap.size w w' := by
  obtain ⟨c0, c1, c2, c3⟩ := box4' h4
  obtain ⟨d1, d2⟩ := cell1_of h7
  have hlt4 := heap_lt h4
  have hlt7 := heap_lt h7
  have HC := Lib.hid (fun o => isRight_any _ C hV x s hs Bp Bm (w.alloc o) (hx.below (((Below.refl _ w).alloc (Nat.le_refl _) o).mono hB)) (by simp; omega) (hp.kept (own := fun _ => False) (KeptBut.of_below ((Below.refl _ w).alloc (Nat.le_refl _) o)) (fun h => h) (fun h => h)))
  clear hx hB h4 h7 hp hs hV
  generalize rightB C.deeds x s = r at HC ⊢
  go_enter Try.func92, Try.ntmps92
  go_wp2_with fail
  refine (HC.out _).mono ?_
  rintro e w' ⟨rfl, hb'⟩
  go_wp2_with fail
  go_ret
  exact ⟨rfl, ((Below.refl _ w).alloc (Nat.le_refl _) _).trans (hb'.mono (by simp))⟩

end Go.Proofs.Ytgjikoebneiamaa
