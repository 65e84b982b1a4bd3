/-
  Many: the number of truths.
-/
import Derived.Test.YtjflpmhlodgadaaSeq
namespace Go.Proofs.Ytjflpmhlodgadaa
open Go.RowKit Go.Shelf

attribute [local go_sem] Oper.semAt_some

theorem boxed_prefix {own : Nat → Prop} {w W : World} {k : Nat} {o : Obj} (h : KeptBut own w W) (hk : w.heap[k]? = some o) (hn : ¬ own k) : W.heap[k]? = some o :=
  (h.block k (Array.getElem?_eq_some_iff.1 hk).1 hn).trans hk

set_option maxRecDepth 100000 in
set_option maxHeartbeats 2000000 in
theorem many_in (F : Fence) (hF : Hid (F = Fence.wide)) (hd : F.depth = none) (hro : F.round = none) (hfn : ∀ f, F.fn f) (n : Nat) (hn : 5 ≤ n) (v : Value) (S : Store) (w : World) (hx : StoreAt w.heap.size w v S) (hV : Valid S) :
    CallsIn F n Try.prog 33 #[v] w fun e w' => e = .returned (.tuple #[.int .i64 (truthsL S).length, .int .i64 (errN (truthsL S).length)]) ∧ Below w.heap.size w w' := by
  have hx' := hx
  obtain ⟨a, cap1, b1, off, a2, cap2, b2, off2, rfl, hm, hm2, HA, HC, HA2, HC2⟩ := hx.opened
  have HX := Lib.hid hx'
  have HV := Lib.hid hV
  obtain ⟨hw0, hw8⟩ := hV.wrong
  clear hx hx' hV HA HC HA2 HC2
  have hxb := fun o => (HX.out.below ((Below.refl _ w).alloc (Nat.le_refl _) o)).mono (show w.heap.size ≤ (w.alloc o).heap.size by simp)
  have HXB := fun o => Lib.hid (hxb o)
  clear hxb
  have hmo : Try.prog.follows .mixedOrders = true := by kernel_rfl
  refine callsIn_of_wp_marks Try.func33 rfl (hfn _) ?_ hro
  simp only [Try.ntmps33, List.size_toArray, List.length_cons, List.length_nil, Nat.reduceAdd, Nat.reduceSub, Array.replicate_succ, Array.replicate_zero, List.push_toArray, List.append_toArray, List.nil_append, List.cons_append]
  gi_wp2_with fail
  refine (inF hF (check_ok (valid_iff.2 HV.out) (HXB _).out)).mono ?_
  rintro e w1 ⟨rfl, hb1⟩
  have hbl : Below (w.heap.size + 1) (w.alloc (.cells #[.slice a S.bars.length cap1, .int .i64 S.kerf, .slice a2 S.pieces.length cap2, .int .i64 S.wrong] 25)) w1 := hb1.mono (by simp)
  have hw := boxed hbl
  have hsz := boxed_size hbl
  obtain ⟨c0, c1, c2, c3⟩ := box4 hbl
  clear hb1
  have hlt1 : w.heap.size < w1.heap.size := by omega
  gi_wp2_with (gi_at_call 63; refine (inF hF (truths_any _ _ _ _ _ _ _ _ _)).mono ?_; rintro e w2 ⟨rfl, hb2, hs2, hq2⟩; have HB2 := Lib.hid hb2; have HS2 := Lib.hid hs2; have HQ2 := Lib.hid hq2; clear hb2 hs2 hq2)
  have hb2 := HB2.out
  have hs2 := HS2.out
  have hq2 := HQ2.out
  simp only [World.size_alloc] at hb2 hs2 hq2
  have hs2a : w1.heap.size + 4 ≤ w2.heap.size := by omega
  clear hs2
  have hmb : w2.heap[w1.heap.size]? = some (.cells #[.int .i64 0] 3) := (hb2.block w1.heap.size (by omega)).trans (heap_new w1 _)
  have hw2 : Below w.heap.size w w2 := hw.trans (((Below.refl _ w1).alloc (Nat.le_refl _) _).trans (hb2.mono (by omega)) |>.mono (by omega))
  refine wpIn_saw F hF hd hro hfn (by omega) rfl w.heap.size _ S S.wrong HV hw0 hw8 (HX.out.below hw2) (by omega) hq2.1 hq2.2 rfl
    (fun k => k = w1.heap.size) (fun k hk => by omega)
    (fun pre W => W.heap[w1.heap.size]? = some (.cells #[.int .i64 pre.length] 3)) (fun _ _ _ => False)
    (fun s A A' row hs hg hr => (hg.block _ (Array.getElem?_eq_some_iff.1 hs).1 (fun e => by have := hr _ e.symm; omega)).trans hs) (fun _ _ _ _ _ h _ _ => h) hmb
    (fun tm x => { tmps := tm.setIfInBounds 13 (.slice (some ⟨w2.heap.size + 2, 0, none⟩) x.length (capS S)), defers := [] }) ?assign ?body ?done ?stop
  case assign =>
    intro l x W K hK
    gi_wp2
    exact hK
  case body =>
    intro l pre x W hpre hI hkb hbuf
    have hlen : pre.length + 1 ≤ 1679616 := by have h1 := hpre.length_le; have h2 := sawL_len HV.out S.wrong; simp only [List.length_append, List.length_cons, List.length_nil] at h1; omega
    obtain ⟨d1, d2⟩ := cell1_of hI
    gi_wp2
    exact ⟨KeptBut.setCell _ _ _ rfl, by simpa using setBox (.int .i64 (pre.length + 1)) hI⟩
  case done =>
    rintro D W hD hkb hI hK
    have hle := sawL_len HV.out S.wrong
    have hfin : Below w.heap.size w (W.putObj D (.deferred none)) := (hw2.trans (hkb.below (by omega) (by omega))).trans (putObj_below _ _ (by omega))
    obtain ⟨d1, d2⟩ := cell1_of hI
    obtain ⟨N, hN⟩ : ∃ N, N = (sawL S S.pieces.length S.wrong []).length := ⟨_, rfl⟩
    rw [← hN] at d1 hle
    have HN := Lib.hid hN
    clear hN hI
    by_cases hz : N = 0
    · subst hz
      gi_wp2
      refine ⟨by simp, .inl ⟨_, _, rfl, run_takeDeferred hK, ?_⟩⟩
      exact ⟨_, results_tmp2 rfl _ _ _, by unfold truthsL; rw [← HN.out]; rfl, hfin⟩
    · have hz1 : ((N : Int) == 0) = false := by simp; omega
      gi_wp2
      refine ⟨by simp, .inl ⟨_, _, rfl, run_takeDeferred hK, ?_⟩⟩
      exact ⟨_, results_tmp2 rfl _ _ _, by unfold truthsL; rw [← HN.out, errN_pos hz]; rfl, hfin⟩
  case stop =>
    rintro D c pre W _ _ _ h _
    exact h.elim
end Go.Proofs.Ytjflpmhlodgadaa
