/-
  Walks: the reference's truths
-/
import Derived.Test.YtjflpmhlodgadaaW3
import Derived.Lib.QuietBelow
namespace Go.Proofs.Ytjflpmhlodgadaa
open Go.RowKit Go.Sort

set_option maxHeartbeats 400000 in
theorem rIsTruth_any (v lv : Value) (S : Store) (L : List Int) (w : World) {B : Nat} (hV : Valid S) (hx : StoreAt B w v S) (hB : B ≤ w.heap.size) (hL : IntsAt B w lv L) :
    Calls Try.prog 14 #[v, lv] w fun e w' => e = .returned (.bool (truthB S L)) ∧ Below w.heap.size w w' := by
  have hx' := hx
  have hL' := hL
  obtain ⟨a, cap, b1, off, a2, cap2, b2, off2, rfl, hm, hm2, HA, HC, HA2, HC2⟩ := hx.opened
  obtain ⟨a3, cap3, b3, off3, rfl, hm3, HA3, HC3, HI⟩ := hL.opened
  clear hx hL HA HC HA2 HC2 HA3 HC3 HI
  obtain ⟨W1, hW1⟩ : ∃ W1, W1 = w.alloc (.cells #[.slice a S.bars.length cap, .int .i64 S.kerf, .slice a2 S.pieces.length cap2, .int .i64 S.wrong] 25) := ⟨_, rfl⟩
  have hbl : Below (w.heap.size + 1) (w.alloc (.cells #[.slice a S.bars.length cap, .int .i64 S.kerf, .slice a2 S.pieces.length cap2, .int .i64 S.wrong] 25)) W1 := hW1 ▸ Below.refl _ _
  have hw := boxed hbl
  have hsz := boxed_size hbl
  obtain ⟨c0, c1, c2, c3⟩ := box4 hbl
  have k0 := cell_regrown c0
  have k1 := cell_regrown c1
  have k2 := cell_regrown c2
  have k3 := cell_regrown c3
  have hg : ∀ d os, Below B w (grow (redrawn W1 d) os) := fun d os => (hw.mono hB).trans ((below_regrown W1 d os).mono (by omega))
  have hgs : ∀ d os, B ≤ (grow (redrawn W1 d) os).heap.size := fun d os => Nat.le_trans (by omega) (below_regrown W1 d os).size
  clear hbl c0 c1 c2 c3
  have HV := Lib.hid hV
  have HG := Lib.hid hg
  have HGS := Lib.hid hgs
  clear hV hg hgs
  have hfin : ∀ {x y : Bool} {d : Nat} {os : Array Obj}, x = y → Ending.returned (.bool x) = .returned (.bool y) ∧ Below w.heap.size w (grow (redrawn W1 d) os) := fun h => ⟨ret_bool h, hw.trans ((below_regrown W1 _ _).mono (by omega))⟩
  go_enter Try.func14, Try.ntmps14
  go_wp2
  rw [← hW1]
  clear hW1 hw
  cases h1 : sawingB S L
  case false =>
    have hr := Lib.hid (show false = truthB S L from by simp [truthB, h1])
    have q1 : ∀ d os, Calls Try.prog 55 #[.agg #[.slice a S.bars.length cap, .int .i64 S.kerf, .slice a2 S.pieces.length cap2, .int .i64 S.wrong], .slice a3 L.length cap3] (grow (redrawn W1 d) os) fun e w'' => e = .returned (.bool false) ∧ ∃ p : Regrown, w'' = grow (redrawn W1 p.d) p.os := fun d os => Calls.regrown_of (rIsSawing_to h1 (hx'.below (HG.out d os)) (HGS.out d os) (hL'.below (HG.out d os)))
    have Q1 := Lib.hid q1
    clear q1 h1
    refine wp_region_quiet_below (by kernel_rfl) (by kernel_rfl) ?_
    repeat (first | go_big_quiet_step (exact Q1.out _ _) | quiet_step (exact Q1.out _ _))
    refine wpQuiet_nil ?_
    intro _ hw'
    obtain ⟨⟨dq, osq⟩, hw''⟩ := hw'
    subst hw''
    go_wp2
    go_ret
    exact hfin hr.out
  have hO := (sawingB_iff.1 h1).1
  have HO := Lib.hid hO
  clear hO
  have q1 : ∀ d os, Calls Try.prog 55 #[.agg #[.slice a S.bars.length cap, .int .i64 S.kerf, .slice a2 S.pieces.length cap2, .int .i64 S.wrong], .slice a3 L.length cap3] (grow (redrawn W1 d) os) fun e w'' => e = .returned (.bool true) ∧ ∃ p : Regrown, w'' = grow (redrawn W1 p.d) p.os := fun d os => Calls.regrown_of (rIsSawing_to h1 (hx'.below (HG.out d os)) (HGS.out d os) (hL'.below (HG.out d os)))
  have Q1 := Lib.hid q1
  have H1 := Lib.hid h1
  clear q1 h1
  cases h2 : fitsB S L
  case false =>
    have hr := Lib.hid (show false = truthB S L from by simp [truthB, h2])
    have q2 : ∀ d os, Calls Try.prog 56 #[.agg #[.slice a S.bars.length cap, .int .i64 S.kerf, .slice a2 S.pieces.length cap2, .int .i64 S.wrong], .slice a3 L.length cap3] (grow (redrawn W1 d) os) fun e w'' => e = .returned (.bool false) ∧ ∃ p : Regrown, w'' = grow (redrawn W1 p.d) p.os := fun d os => Calls.regrown_of (rfits_to h2 HV.out (hx'.below (HG.out d os)) (HGS.out d os) (hL'.below (HG.out d os)) HO.out.1)
    have Q2 := Lib.hid q2
    clear q2 h2
    refine wp_region_quiet_below (by kernel_rfl) (by kernel_rfl) ?_
    repeat (first | go_big_quiet_step (first | (go_at_call 55; exact Q1.out _ _) | (go_at_call 56; exact Q2.out _ _)) | quiet_step (first | (go_at_call 55; exact Q1.out _ _) | (go_at_call 56; exact Q2.out _ _)))
    refine wpQuiet_nil ?_
    intro _ hw'
    obtain ⟨⟨dq, osq⟩, hw''⟩ := hw'
    subst hw''
    go_wp2
    go_ret
    exact hfin hr.out
  have hr := Lib.hid (show decide (wrongs S L ≤ S.wrong) = truthB S L from by simp [truthB, h2, H1.out])
  have q2 : ∀ d os, Calls Try.prog 56 #[.agg #[.slice a S.bars.length cap, .int .i64 S.kerf, .slice a2 S.pieces.length cap2, .int .i64 S.wrong], .slice a3 L.length cap3] (grow (redrawn W1 d) os) fun e w'' => e = .returned (.bool true) ∧ ∃ p : Regrown, w'' = grow (redrawn W1 p.d) p.os := fun d os => Calls.regrown_of (rfits_to h2 HV.out (hx'.below (HG.out d os)) (HGS.out d os) (hL'.below (HG.out d os)) HO.out.1)
  have q3 : ∀ d os, Calls Try.prog 20 #[.agg #[.slice a S.bars.length cap, .int .i64 S.kerf, .slice a2 S.pieces.length cap2, .int .i64 S.wrong], .slice a3 L.length cap3] (grow (redrawn W1 d) os) fun e w'' => e = .returned (.int .i64 (wrongs S L)) ∧ ∃ p : Regrown, w'' = grow (redrawn W1 p.d) p.os := fun d os => Calls.regrown_of (rWrongs_any _ _ _ _ _ (hx'.below (HG.out d os)) (HGS.out d os) (hL'.below (HG.out d os)) HO.out)
  have Q2 := Lib.hid q2
  have Q3 := Lib.hid q3
  clear q2 q3 h2
  refine wp_region_quiet_below (by kernel_rfl) (by kernel_rfl) ?_
  repeat (first | go_big_quiet_step (first | (go_at_call 55; exact Q1.out _ _) | (go_at_call 56; exact Q2.out _ _) | (go_at_call 20; exact Q3.out _ _)) | quiet_step (first | (go_at_call 55; exact Q1.out _ _) | (go_at_call 56; exact Q2.out _ _) | (go_at_call 20; exact Q3.out _ _)))
  refine wpQuiet_nil ?_
  intro _ hw'
  obtain ⟨⟨dq, osq⟩, hw''⟩ := hw'
  subst hw''
  go_wp2
  go_ret
  exact hfin hr.out
theorem rIsTruth_to {v lv : Value} {S : Store} {L : List Int} {w : World} {B : Nat} {r : Bool} (h : truthB S L = r) (hV : Valid S) (hx : StoreAt B w v S) (hB : B ≤ w.heap.size) (hL : IntsAt B w lv L) :
    Calls Try.prog 14 #[v, lv] w fun e w' => e = .returned (.bool r) ∧ Below w.heap.size w w' := h ▸ rIsTruth_any v lv S L w hV hx hB hL
end Go.Proofs.Ytjflpmhlodgadaa
