/-
  Links, walks: the last cable of a past, and the questions of Who and Where.
  Links, walks: the questions of Who and Where.
-/
import Derived.Test.YtgjikoebneiamaaLRight
import Derived.BigQuiet

namespace Go.Proofs.Ytgjikoebneiamaa
open Go.RowKit Go.Sort

/-- The place of a number in a list; -1: it is not there. -/
def ixV : List Int → Int → Int
  | [], _ => -1
  | a :: l, x => if a = x then 0 else if ixV l x < 0 then -1 else ixV l x + 1
theorem ixV_no : ∀ {xs : List Int} {x : Int}, x ∉ xs → ixV xs x = -1
  | [], _, _ => rfl
  | a :: l, x, h => by
    simp only [List.mem_cons, not_or] at h
    simp only [ixV, if_neg (Ne.symm h.1), ixV_no h.2]; rfl
theorem nth_cons_succ (a : Int) (l : List Int) (i : Nat) : nth (a :: l) (i + 1) = nth l i := rfl
theorem ixV_yes : ∀ {xs : List Int} {x : Int} {j : Nat}, j < xs.length → x = nth xs j → (∀ i, i < j → x ≠ nth xs i) → ixV xs x = j
  | [], _, _, h, _, _ => by simp at h
  | a :: l, x, 0, _, e, _ => by simp only [ixV]; rw [if_pos]; rfl; exact e.symm
  | a :: l, x, j + 1, h, e, hn => by
    have h0 : ¬ a = x := fun e' => hn 0 (by omega) e'.symm
    have ih := ixV_yes (xs := l) (x := x) (j := j) (by simpa using h) e (fun i hi => hn (i + 1) (by omega))
    simp only [ixV, if_neg h0, ih]
    rw [if_neg (by omega)]; push_cast; rfl
theorem index_any (v : Value) (xs : List Int) (x : Int) (w : World) {B : Nat} (hx : IntsAt B w v xs) :
    Calls Try.prog 86 #[v, .int .i64 x] w fun e w' => e = .returned (.int .i64 (ixV xs x)) ∧ w = w' := by
  cases h : inB xs x
  · rw [ixV_no (by simpa [inB] using h)]
    exact index_no v xs x w hx h
  · obtain ⟨j, hj, he, hne⟩ := least_ix h
    rw [ixV_yes hj he hne]
    exact index_yes v xs x w hx j hj he hne
theorem ixV_bound : ∀ (xs : List Int) (x : Int), -1 ≤ ixV xs x ∧ ixV xs x < xs.length
  | [], _ => by simp [ixV]
  | a :: l, x => by
    have := ixV_bound l x
    simp only [ixV, List.length_cons]
    split
    · omega
    · split <;> omega

theorem PastTo.ints {n Bp Bm : Nat} {cab : Nat → List Int} {W : World} (h : PastTo n Bp Bm cab n W) (_ : n ≤ 12) (hI : ∀ x ∈ cab n, I64 x) : IntsAt W.heap.size W (.slice (some ⟨Bm, n * 12, none⟩) (cab n).length 12) (cab n) := by
  have hl := h.len n (Nat.le_refl _)
  have hlt := h.ltm
  obtain ⟨f, hR, hH⟩ := h.mem
  exact ⟨_, 12, Bm, n * 12, rfl, hl, by unfold maxLen; omega, fun _ => ⟨rfl, hlt⟩, fun i hi => by rw [hR.cell (by omega), hH n (Nat.le_refl _) i hi], hI⟩
theorem story_i64 {C : Chain} (hV : Valid C) (ends : List Int) {k : Nat} (hk : k ≤ C.deeds.length) : ∀ x ∈ story C.deeds ends k, I64 x := fun x hx => by
  have h1 := (story_ok (ends := ends) hV.deed k hk).2.2 x hx
  have h2 := weldsTo_le C.deeds k
  have h3 := hV.nd
  unfold I64; omega

set_option maxHeartbeats 1000000 in
theorem last_any (n Bp Bm : Nat) (cab : Nat → List Int) (w : World) (hn : n ≤ 12) (hp : PastTo n Bp Bm cab n w) :
    Calls Try.prog 80 #[pastV n Bp] w fun e w' => e = .returned (.slice (some ⟨Bm, n * 12, none⟩) (cab n).length 12) ∧ w' = w := by
  have x0 := hdr_cell hp (Nat.le_refl n)
  have hltp := hp.ltp
  generalize (cab n).length = L at x0 ⊢
  have hw1 : IntKind.i64.wrap (((n : Int) + 1) - 1) = (n : Int) := by rw [IntWalk.i64_in _ (by omega)]; omega
  clear hp
  go_enter Try.func80, Try.ntmps80
  go_wp2_with fail
  go_ret
  exact ⟨rfl, rfl⟩

end Go.Proofs.Ytgjikoebneiamaa

namespace Go.Proofs.Ytgjikoebneiamaa
open Go.RowKit Go.Sort

set_option maxHeartbeats 1000000 in
theorem whoAsk_any (C : Chain) (hV : Valid C) (x : List Int) (Bp Bm bx : Nat) (at_ : Nat) (w : World) (hp : PastTo C.deeds.length Bp Bm (story C.deeds x) C.deeds.length w)
    (hbx : w.cell? ⟨bx, 0, none⟩ = some (.int .i64 at_)) (hat : at_ < (story C.deeds x C.deeds.length).length) :
    Calls Try.prog 79 #[pastV C.deeds.length Bp, .pointer (some ⟨bx, 0, none⟩)] w fun e w' => e = .returned (.int .i64 (nth (story C.deeds x C.deeds.length) at_)) ∧ Below w.heap.size w w' := by
  have hnd := hV.nd
  have HLAST := Lib.hid (fun d => last_any C.deeds.length Bp Bm (story C.deeds x) (w.drewN d) hnd (hp.kept (own := fun _ => False) (kept_drewN w d) (fun h => h) (fun h => h)))
  have hl := hp.len C.deeds.length (Nat.le_refl _)
  obtain ⟨f, hR, hH⟩ := hp.mem
  have x0 : w.cell? ⟨Bm, C.deeds.length * 12 + at_, none⟩ = some (.int .i64 (nth (story C.deeds x C.deeds.length) at_)) := by rw [hR.cell (by omega), hH _ (Nat.le_refl _) at_ hat]
  clear hp hR hH
  generalize nth (story C.deeds x C.deeds.length) at_ = y at x0 ⊢
  generalize (story C.deeds x C.deeds.length).length = L at hat hl HLAST
  generalize C.deeds.length = nd at x0 hnd HLAST ⊢
  go_enter Try.func79, Try.ntmps79
  go_wp2_with fail
  go_quiet ((go_at_call 80; exact Calls.quiet_of_same (HLAST.out _)))
  go_wp2_with fail
  go_ret
  exact ⟨rfl, drewN_below (Below.refl _ _) _⟩

set_option maxHeartbeats 1000000 in
theorem whereAsk_any (C : Chain) (hV : Valid C) (x : List Int) (Bp Bm bx : Nat) (link : Int) (w : World) (hp : PastTo C.deeds.length Bp Bm (story C.deeds x) C.deeds.length w)
    (hbx : w.cell? ⟨bx, 0, none⟩ = some (.int .i64 link)) :
    Calls Try.prog 85 #[pastV C.deeds.length Bp, .pointer (some ⟨bx, 0, none⟩)] w fun e w' => e = .returned (.int .i64 (ixV (story C.deeds x C.deeds.length) link)) ∧ Below w.heap.size w w' := by
  have hnd := hV.nd
  have hpd := fun d => hp.kept (own := fun _ => False) (kept_drewN w d) (fun h => h) (fun h => h)
  have HLAST := Lib.hid (fun d => last_any C.deeds.length Bp Bm (story C.deeds x) (w.drewN d) hnd (hpd d))
  have HIX := Lib.hid (fun d => (index_any _ _ link _ ((hpd d).ints hnd (story_i64 hV x (Nat.le_refl _)))).mono (R' := fun e w' => e = .returned (.int .i64 (ixV (story C.deeds x C.deeds.length) link)) ∧ w' = w.drewN d) (fun _ _ h => ⟨h.1, h.2.symm⟩))
  clear hp hpd
  generalize ixV (story C.deeds x C.deeds.length) link = y at HIX ⊢
  generalize (story C.deeds x C.deeds.length).length = L at HLAST HIX
  generalize C.deeds.length = nd at hnd HLAST HIX ⊢
  go_enter Try.func85, Try.ntmps85
  go_wp2_with fail
  go_quiet (first
    | (go_at_call 80; exact Calls.quiet_of_same (HLAST.out _))
    | (go_at_call 86; exact Calls.quiet_of_same (HIX.out _)))
  go_wp2_with fail
  go_ret
  exact ⟨rfl, drewN_below (Below.refl _ _) _⟩

end Go.Proofs.Ytgjikoebneiamaa
