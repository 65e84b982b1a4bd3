/-
  Walks: the reference's Rest where there is an error.
-/
import Derived.Test.YtjflpmhlodgadaaRestW
namespace Go.Proofs.Ytjflpmhlodgadaa
open Go.RowKit Go.Sort

set_option maxRecDepth 100000 in
set_option maxHeartbeats 1000000 in
theorem rRest_err (v : Value) (S : Store) (bar : Int) (r : Bool) (er : Int) (w : World) (hx : StoreAt w.heap.size w v S) (hr : wB bar 0 ((S.bars.length : Int) - 1) = r)
    (ht : ∀ w, StoreAt w.heap.size w v S → Calls Try.prog 75 #[v, .bool r] w (GaveListsX [] er w)) :
    Calls Try.prog 51 #[v, .int .i64 bar] w fun e w' => e = .returned (.tuple #[.agg #[.int .i64 0, .int .i64 0], .int .i64 er]) ∧ Below w.heap.size w w' := by
  obtain ⟨a, cap1, b1, off, a2, cap2, b2, off2, rfl, hm, hm2, HA, HC, HA2, HC2⟩ := hx.opened
  have hs := Stat.first hx
  have HS1 := Lib.hid (hs.alloc (.cells #[.int .i64 0, .int .i64 0] 43))
  have hsp0 := (heap_at2 w (.cells #[.slice a S.bars.length cap1, .int .i64 S.kerf, .slice a2 S.pieces.length cap2, .int .i64 S.wrong] 25) (.cells #[.int .i64 0, .int .i64 0] 43)).2
  have HSP0 := Lib.hid hsp0
  have HWR := Lib.hid (show IntKind.i64.wrap ((S.bars.length : Int) - 1) = (S.bars.length : Int) - 1 from IntWalk.i64_in _ (by omega))
  have HR := Lib.hid hr
  have HT := Lib.hid ht
  clear hs hx hr ht hsp0 HA HC HA2 HC2
  go_enter Try.func51, Try.ntmps51
  go_wp2_with fail
  have hs := HS1.out
  have hsp := HSP0.out
  clear HS1 HSP0
  generalize (w.alloc (.cells #[.slice a S.bars.length cap1, .int .i64 S.kerf, .slice a2 S.pieces.length cap2, .int .i64 S.wrong] 25)).alloc (.cells #[.int .i64 0, .int .i64 0] 43) = W at hs hsp ⊢
  have q1 : ∀ d os, Calls Try.prog 37 #[.int .i64 bar, .int .i64 0, .int .i64 (IntKind.i64.wrap ((S.bars.length : Int) - 1))] (grow (redrawn W d) os) fun e w'' => e = .returned (.bool r) ∧ ∃ p : Regrown, w'' = grow (redrawn W p.d) p.os := fun d os => by
    rw [HWR.out]
    exact (rwithin_to HR.out _).mono fun e w' h => ⟨h.1, ⟨d, os⟩, h.2.symm⟩
  have q1' := q1
  rw [HWR.out] at q1'
  have q3 : ∀ d os, Calls Try.prog 75 #[.agg #[.slice a S.bars.length cap1, .int .i64 S.kerf, .slice a2 S.pieces.length cap2, .int .i64 S.wrong], .bool r] (grow (redrawn W d) os) fun e w'' => e = .returned (.tuple #[.slice none 0 0, .int .i64 er]) ∧ ∃ p : Regrown, w'' = grow (redrawn W p.d) p.os := fun d os => Calls.regrown_of ((HT.out _ (hs.next (below_regrown W d os)).st).mono fun _ _ h => h.nil)
  obtain ⟨c0, c1, c2, c3⟩ := box4_of hs.blk
  have k0 := cell_regrown c0
  have k1 := cell_regrown c1
  have k2 := cell_regrown c2
  have k3 := cell_regrown c3
  have HS1 := Lib.hid hs
  have HSP := Lib.hid hsp
  have hlt : w.heap.size + 1 < W.heap.size := (Array.getElem?_eq_some_iff.1 hsp).1
  have HLT := Lib.hid hlt
  have Q1 := Lib.hid q1
  have Q2 := Lib.hid q1'
  have Q3 := Lib.hid q3
  clear hs hsp hlt c0 c1 c2 c3 q1 q1' q3
  refine wp_region_quiet_below (by kernel_rfl) (by kernel_rfl) ?_
  repeat (first | go_big_quiet_step (first | (go_at_call 37; with_reducible exact Q1.out _ _) | (go_at_call 37; with_reducible exact Q2.out _ _) | (go_at_call 75; with_reducible exact Q3.out _ _)) | quiet_step (first | (go_at_call 37; with_reducible exact Q1.out _ _) | (go_at_call 37; with_reducible exact Q2.out _ _) | (go_at_call 75; with_reducible exact Q3.out _ _)))
  refine wpQuiet_nil ?_
  intro _ hw'
  obtain ⟨⟨dq, osq⟩, hw''⟩ := hw'
  subst hw''
  have hbq := below_regrown W dq osq
  have HS2 := Lib.hid (HS1.out.next hbq)
  have HSP2 := Lib.hid ((hbq.block _ HLT.out).trans HSP.out)
  generalize grow (redrawn W dq) osq = w2 at hbq HS2 HSP2 ⊢
  have hlt2 : w.heap.size + 1 < w2.heap.size := (Array.getElem?_eq_some_iff.1 HSP2.out).1
  clear k0 k1 k2 k3 hbq Q1 Q2 Q3
  go_wp2
  have HW3 := Lib.hid (show (w2.alloc (.cells #[.int .i64 0, .int .i64 0] 43)).heap[w2.heap.size]? = some (.cells #[.int .i64 0, .int .i64 0] 43) from heap_new w2 _)
  have HR3 := Lib.hid ((((Below.refl _ w2).alloc (Nat.le_refl _) (.cells #[.int .i64 0, .int .i64 0] 43)).block (w.heap.size + 1) hlt2).trans HSP2.out)
  have HB3 := Lib.hid (HS2.out.alloc (.cells #[.int .i64 0, .int .i64 0] 43)).b
  go_loopw [9] (fun i wr => i = .int .i64 0 ∧ Hid (wr.heap[w2.heap.size]? = some (.cells #[.int .i64 0, .int .i64 0] 43)) ∧ Hid (wr.heap[w.heap.size + 1]? = some (.cells #[.int .i64 0, .int .i64 0] 43)) ∧ Hid (Below w.heap.size w wr)) (fun i _ => 0)
  case atStart => exact ⟨rfl, HW3, HR3, HB3⟩
  case round =>
    obtain ⟨rfl, hw3, hres, hb3⟩ := hrel
    obtain ⟨f0, f1, f2, f3⟩ := cell2_of hw3.out
    obtain ⟨g0, g1, g2, g3⟩ := cell2_of hres.out
    have HRS := hres
    have HFB := Lib.hid ((hb3.out.setCell (p := ⟨w.heap.size + 1, 0, none⟩) (Nat.le_succ _) (.int .i64 0)).setCell (p := ⟨w.heap.size + 1, 1, none⟩) (Nat.le_succ _) (.int .i64 0))
    clear hres
    go_wp2
    obtain ⟨y0, y1, _, _⟩ := cell2_of (heap_set (o := 1) (.int .i64 0) (heap_set (o := 0) (.int .i64 0) HRS.out))
    refine bodyPost_ret (v := .tuple #[.agg #[.int .i64 0, .int .i64 0], .int .i64 er]) (by simp [results, Try.results51, go_sem, y0, y1]) rfl ⟨rfl, HFB.out⟩
end Go.Proofs.Ytjflpmhlodgadaa
