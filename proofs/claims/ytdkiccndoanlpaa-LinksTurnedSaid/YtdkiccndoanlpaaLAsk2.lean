/-
  Links, walks: the questions of Who and Where.
-/
import Derived.Test.YtdkiccndoanlpaaLAsk

namespace Go.Proofs.Ytdkiccndoanlpaa
open Go.RowKit Go.Sort

set_option maxHeartbeats 1000000 in
theorem whoAsk_any (C : Chain) (hV : Valid C) (x : List Int) (Bp Bm bx : Nat) (at_ : Nat) (w : World) (hp : PastTo C.deeds.length Bp Bm (story C.deeds x) C.deeds.length w)
    (hbx : w.cell? ⟨bx, 0, none⟩ = some (.int .i64 at_)) (hat : at_ < (story C.deeds x C.deeds.length).length) :
    Calls Try.prog 79 #[pastV C.deeds.length Bp, .pointer (some ⟨bx, 0, none⟩)] w fun e w' => e = .returned (.int .i64 (nth (story C.deeds x C.deeds.length) at_)) ∧ Below w.heap.size w w' := by
  have hnd := hV.nd
  have HLAST := Lib.hid (fun d => last_any C.deeds.length Bp Bm (story C.deeds x) (w.drewN d) hnd (hp.kept (own := fun _ => False) (kept_drewN w d) (fun h => h) (fun h => h)))
  have hl := hp.len C.deeds.length (Nat.le_refl _)
  obtain ⟨f, hR, hH⟩ := hp.mem
  have x0 : w.cell? ⟨Bm, C.deeds.length * 12 + at_, none⟩ = some (.int .i64 (nth (story C.deeds x C.deeds.length) at_)) := by rw [hR.cell (by omega), hH _ (Nat.le_refl _) at_ hat]
  clear hp hR hH
  generalize nth (story C.deeds x C.deeds.length) at_ = y at x0 ⊢
  generalize (story C.deeds x C.deeds.length).length = L at hat hl HLAST
  generalize C.deeds.length = nd at x0 hnd HLAST ⊢
  go_enter Try.func79, Try.ntmps79
  go_wp2_with fail
  go_quiet ((go_at_call 80; exact Calls.quiet_of_same (HLAST.out _)))
  go_wp2_with fail
  go_ret
  exact ⟨rfl, drewN_below (Below.refl _ _) _⟩

set_option maxHeartbeats 1000000 in
theorem whereAsk_any (C : Chain) (hV : Valid C) (x : List Int) (Bp Bm bx : Nat) (link : Int) (w : World) (hp : PastTo C.deeds.length Bp Bm (story C.deeds x) C.deeds.length w)
    (hbx : w.cell? ⟨bx, 0, none⟩ = some (.int .i64 link)) :
    Calls Try.prog 85 #[pastV C.deeds.length Bp, .pointer (some ⟨bx, 0, none⟩)] w fun e w' => e = .returned (.int .i64 (ixV (story C.deeds x C.deeds.length) link)) ∧ Below w.heap.size w w' := by
  have hnd := hV.nd
  have hpd := fun d => hp.kept (own := fun _ => False) (kept_drewN w d) (fun h => h) (fun h => h)
  have HLAST := Lib.hid (fun d => last_any C.deeds.length Bp Bm (story C.deeds x) (w.drewN d) hnd (hpd d))
  have HIX := Lib.hid (fun d => (index_any _ _ link _ ((hpd d).ints hnd (story_i64 hV x (Nat.le_refl _)))).mono (R' := fun e w' => e = .returned (.int .i64 (ixV (story C.deeds x C.deeds.length) link)) ∧ w' = w.drewN d) (fun _ _ h => ⟨h.1, h.2.symm⟩))
  clear hp hpd
  generalize ixV (story C.deeds x C.deeds.length) link = y at HIX ⊢
  generalize (story C.deeds x C.deeds.length).length = L at HLAST HIX
  generalize C.deeds.length = nd at hnd HLAST HIX ⊢
  go_enter Try.func85, Try.ntmps85
  go_wp2_with fail
  go_quiet (first
    | (go_at_call 80; exact Calls.quiet_of_same (HLAST.out _))
    | (go_at_call 86; exact Calls.quiet_of_same (HIX.out _)))
  go_wp2_with fail
  go_ret
  exact ⟨rfl, drewN_below (Below.refl _ _) _⟩

end Go.Proofs.Ytdkiccndoanlpaa
