/-
  Links, walks: the number of truths.
-/
import Derived.Test.YtgjikoebneiamaaLSeq2
namespace Go.Proofs.Ytgjikoebneiamaa
open Go.RowKit Go.Shelf

attribute [local go_sem] Oper.semAt_some

/-- The error where there are n truths. -/
def noneE (n : Nat) : Int := if n = 0 then 3 else 0
theorem noneE_pos {n : Nat} (h : ¬ n = 0) : noneE n = 0 := by simp [noneE, h]
theorem truthsP_len {C : Chain} (hV : Valid C) : (truthsP C).length ≤ 4096 := by
  refine Nat.le_trans (List.length_filter_le _ _) ?_
  rw [pastsL_eq, List.length_map, List.length_range]
  exact choN_le _ hV.nd

set_option maxRecDepth 100000 in
set_option maxHeartbeats 4000000 in
theorem Many_in (F : Fence) (hF : Hid (F = Fence.wide)) (hd : F.depth = none) (hro : F.round = none) (hfn : ∀ f, F.fn f) (n : Nat) (hn : 9 ≤ n) (a a2 : Option Addr) (cap cap2 : Nat) (C : Chain) (w : World)
    (hx : ChainAt w.heap.size w (.agg #[.slice a C.deeds.length cap, .slice a2 C.sights.length cap2, .int .i64 C.wrong]) C) (hV : validB C = true) :
    CallsIn F n Try.prog 22 #[.agg #[.slice a C.deeds.length cap, .slice a2 C.sights.length cap2, .int .i64 C.wrong]] w fun e w' => e = .returned (.tuple #[.int .i64 (truthsP C).length, .int .i64 (noneE (truthsP C).length)]) ∧ Below w.heap.size w w' := by
  have hV' := valid_iff.1 hV
  have hlt := truthsP_len hV'
  have HX := Lib.hid (fun W (hb : Below w.heap.size w W) => (hx.below hb).mono hb.size)
  have HV := Lib.hid hV
  have HV' := Lib.hid hV'
  have HLT := Lib.hid hlt
  clear hx hV hV' hlt
  have hmo : Try.prog.follows .mixedOrders = true := by kernel_rfl
  refine callsIn_of_wp_marks Try.func22 rfl (hfn _) ?_ hro
  simp only [Try.ntmps22, List.size_toArray, List.length_cons, List.length_nil, Nat.reduceAdd, Nat.reduceSub, Array.replicate_succ, Array.replicate_zero, List.push_toArray, List.append_toArray, List.nil_append, List.cons_append]
  gi_wp2_with fail
  refine (inF hF (open_mk _ _ C _ (HX.out _ (by go_grown)) HV.out)).mono ?_
  rintro e w1 ⟨bm, rfl, hbm, hmk, hb1⟩
  have hsz := hb1.size
  simp only [World.size_alloc] at hsz hbm
  have hbw : Below w.heap.size w w1 := (((Below.refl _ w).alloc (Nat.le_refl _) _)).trans (hb1.mono (by simp))
  have hbk : BookAt w1.heap.size w1 (.agg #[.slice a C.deeds.length cap, .slice a2 C.sights.length cap2, .int .i64 C.wrong, .slice (some ⟨bm, 0, none⟩) (weldsTo C.deeds C.deeds.length) 12]) C := ⟨_, _, _, rfl, HX.out _ hbw, hmk⟩
  have HBK := Lib.hid hbk
  have HBW := Lib.hid hbw
  obtain ⟨N, hN⟩ : ∃ N, weldsTo C.deeds C.deeds.length = N := ⟨_, rfl⟩
  rw [hN] at HBK ⊢
  clear hb1 hmk hbw hbk hN hsz hbm
  gi_wp2_with fail
  obtain ⟨w2, hw2⟩ : ∃ w2, w2 = (w1.alloc (.cells #[.slice a C.deeds.length cap, .slice a2 C.sights.length cap2, .int .i64 C.wrong, .slice (some ⟨bm, 0, none⟩) N 12] 84)).alloc (.cells #[.int .i64 0] 3) := ⟨_, rfl⟩
  have hs2 : w2.heap.size = w1.heap.size + 2 := by rw [hw2]; simp
  have hb2 : Below w1.heap.size w1 w2 := by rw [hw2]; exact ((Below.refl _ w1).alloc (Nat.le_refl _) _).alloc (by simp) _
  have hcx2 : w2.heap[w1.heap.size + 1]? = some (.cells #[.int .i64 (([] : List (List Int)).length)] 3) := by rw [hw2]; exact heap_new1 _ _ _
  rw [← hw2]
  clear hw2
  have HB2 := Lib.hid hb2
  have hown1 : ∀ (s : List (List Int)) (A A' : World), A.heap[w1.heap.size + 1]? = some (.cells #[.int .i64 s.length] 3) → KeptBut (fun r => r = w2.heap.size ∨ r = w2.heap.size + 1 ∨ ∃ c ∈ [2, 3, C.deeds.length + 5, C.deeds.length + 6], r = w2.heap.size + 2 + c) A A' → A'.heap[w1.heap.size + 1]? = some (.cells #[.int .i64 s.length] 3) := fun s A A' h hk =>
    (hk.block _ (heap_lt h) (by rintro (h | h | ⟨c, hc, h⟩) <;> omega)).trans h
  have hbkx := HBK.out.below hb2
  refine wpIn_truths F hF hd hro hfn (by omega) _ _ _ C rfl HV'.out w1.heap.size hbkx (by omega) rfl (fun k => k = w1.heap.size + 1) (fun k hk => by omega)
    (fun pre W => W.heap[w1.heap.size + 1]? = some (.cells #[.int .i64 pre.length] 3)) (fun _ _ _ => False) hown1 (fun _ _ _ _ h _ => h) hcx2
    (fun tm _ x => { tmps := tm.setIfInBounds 17 (pastV C.deeds.length (w2.heap.size + 2 + C.deeds.length + 5)), defers := [] }) (fun V _ => V) (fun W x => Below.refl _ _) ?assign ?body ?done ?stop
  case assign =>
    intro l x W K hK
    generalize pastV C.deeds.length (w2.heap.size + 2 + C.deeds.length + 5) = pv at hK ⊢
    gi_wp2
    exact hK
  case body =>
    intro l pre x V U hpre hI hkb hpast hV2 hkl
    have hlen : pre.length + 1 ≤ 4096 := by have h1 := hpre.length_le; have h2 := HLT.out; simp only [List.length_append, List.length_cons, List.length_nil] at h1; omega
    obtain ⟨d1, d2⟩ := cell1_of hI
    have HI1 := Lib.hid hI
    clear hpast hkl hkb hI hpre hcx2 hb2 hown1 hbkx
    generalize pastV C.deeds.length (w2.heap.size + 2 + C.deeds.length + 5) = pv
    gi_wp2
    exact ⟨KeptBut.setCell _ _ _ rfl, by simpa using set_box (.int .i64 (pre.length + 1)) HI1.out⟩
  case done =>
    rintro D W hD hkb hI hK
    have hfin : Below w.heap.size w (W.putObj D (.deferred none)) := ((HBW.out.trans (HB2.out.mono HBW.out.size)).trans (hkb.below (by have := HBW.out.size; omega) (fun k hk => by have := HBW.out.size; omega))).trans (putObj_below _ _ (by have := HBW.out.size; omega))
    obtain ⟨d1, d2⟩ := cell1_of hI
    have hle := HLT.out
    obtain ⟨M, hM⟩ : ∃ M, (truthsP C).length = M := ⟨_, rfl⟩
    rw [hM] at d1 hle
    have HM := Lib.hid hM
    clear hM hI hcx2 hb2 hown1 hbkx HLT
    by_cases hz : M = 0
    · subst hz
      gi_wp2
      refine ⟨by simp, .inl ⟨_, _, rfl, run_takeDeferred hK, ?_⟩⟩
      exact ⟨_, results_tmp2 rfl _ _ _, by rw [HM.out]; rfl, hfin⟩
    · have hz1 : ((M : Int) == 0) = false := by simp; omega
      gi_wp2
      refine ⟨by simp, .inl ⟨_, _, rfl, run_takeDeferred hK, ?_⟩⟩
      exact ⟨_, results_tmp2 rfl _ _ _, by rw [HM.out, noneE_pos hz]; rfl, hfin⟩
  case stop =>
    rintro D c pre W _ _ _ h _
    exact h.elim
theorem Many_any (a a2 : Option Addr) (cap cap2 : Nat) (C : Chain) (w : World)
    (hx : ChainAt w.heap.size w (.agg #[.slice a C.deeds.length cap, .slice a2 C.sights.length cap2, .int .i64 C.wrong]) C) (hV : validB C = true) :
    Calls Try.prog 22 #[.agg #[.slice a C.deeds.length cap, .slice a2 C.sights.length cap2, .int .i64 C.wrong]] w fun e w' => e = .returned (.tuple #[.int .i64 (truthsP C).length, .int .i64 (noneE (truthsP C).length)]) ∧ Below w.heap.size w w' :=
  wide_calls (Many_in Fence.wide rfl rfl rfl (fun _ => trivial) 9 (by omega) a a2 cap cap2 C w hx hV)

end Go.Proofs.Ytgjikoebneiamaa
