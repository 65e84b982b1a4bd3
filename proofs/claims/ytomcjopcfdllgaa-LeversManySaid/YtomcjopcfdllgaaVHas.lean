/-
  Levers, walks: whether there is a truth.
-/
import Derived.Test.YtomcjopcfdllgaaVWeight

namespace Go.Proofs.Ytomcjopcfdllgaa
open Go.RowKit Go.Shelf

attribute [local go_sem] Oper.semAt_some

/-- Marks of loops on a function's deferred calls. -/
def marks (ds : List Nat) : List Deferred := ds.map fun D => { target := .collected D, args := #[] }
theorem marks_cons (D : Nat) (ds : List Nat) : { target := .collected D, args := #[] } :: marks ds = marks (D :: ds) := rfl
/-- A function leaves over the marks of loops in which nothing was deferred. -/
theorem leaves_marks {F : Fence} {n : Nat} {fn : Func} {tmps : Array Value} {R : Ending → World → Prop} : ∀ (ds : List Nat) (w : World), ds.Nodup → (∀ D ∈ ds, w.heap[D]? = some (.deferred (some []))) →
    (∀ w', KeptBut (fun k => k ∈ ds) w w' → LeavesInM F n Try.prog fn tmps R [] .returning w') → LeavesInM F n Try.prog fn tmps R (marks ds) .returning w
  | [], w, _, _, h => h w (KeptBut.refl _ _)
  | D :: ds, w, hn, hd, h => by
    obtain ⟨h1, h2⟩ := List.nodup_cons.1 hn
    refine ⟨by simp, .inl ⟨_, _, rfl, run_takeDeferred (hd D (by simp)), ?_⟩⟩
    refine leaves_marks ds _ h2 (fun E hE => ?_) (fun w' hk => h w' ?_)
    · exact (World.putObj_heap_other (by rintro rfl; exact h1 hE)).trans (hd E (by simp [hE]))
    · exact (KeptBut.putObj _ _ _ (by simp)).trans (hk.mono (fun k _ h => by simp [h]))

/-- The law for a caller that ranges over the truths and looks at none of them. -/
theorem wpIn_truths_bare (F : Fence) (hF : Hid (F = Fence.wide)) (hd : F.depth = none) (hro : F.round = none) (hfn : ∀ f, F.fn f) {n : Nat} (h1 : 7 ≤ n) {g : Operand} {ps : Array Tmp} {assign body : Code} {Q : Exit → Act → World → Prop} {a : Act} {w : World}
    (M : Mach) (hV : ValidM M) (lev : Nat) (hl : lev < 3) (pb B : Nat) (hg : a.eval g = .func (.func 60) #[.pointer (some ⟨pb, 0, none⟩)] #[]) (hx : WorkAt B w pb M lev) (hB : B ≤ w.heap.size) (hps : ps.size = 1)
    (own : Nat → Prop) (hown : ∀ k, own k → B ≤ k ∧ k < w.heap.size)
    (I : List Grp → World → Prop) (Ix : Code → List Grp → World → Prop) (hI : ∀ s A A', I s A → KeptBut (fun r => w.heap.size ≤ r) A A' → I s A') (hIx : ∀ d s A A', Ix d s A → KeptBut (fun r => w.heap.size ≤ r) A A' → Ix d s A') (h0 : I [] w)
    (a₁ : Array Value → World → Grp → Act)
    (hassign : ∀ (l : Nat) (x : Grp) (W : World) (K : Act → World → Prop), K (a₁ a.tmps W x) W →
      assign.wpIn (F.inRound l) (n - 1 - 1) Try.prog (Exit.then K (fun _ _ _ => False)) { tmps := (ps.zip #[grpV M lev x]).foldl (fun t (p, v) => t.setIfInBounds p v) a.tmps, defers := [] } W)
    (hbody : ∀ (l : Nat) (pre : List Grp) (x : Grp) (V W : World), pre ++ [x] <+: grpT M lev → I pre W → KeptBut own w W → w.heap.size + 2 ≤ V.heap.size → WorkAt B W pb M lev →
      body.wpIn (F.inRound l) (n - 1 - 1) Try.prog (postY own I Ix (pre ++ [x]) W) (a₁ a.tmps V x) W)
    (hdone : ∀ (D : Nat) (W : World), D = w.heap.size → KeptBut own w W → I (grpT M lev) W → W.heap[D]? = some (.deferred (some [])) → Q .normal { a with defers := { target := .collected D, args := #[] } :: a.defers } W)
    (hstop : ∀ (D : Nat) (d : Code) (pre : List Grp) (W : World), D = w.heap.size → KeptBut own w W → pre <+: grpT M lev → Ix d pre W → W.heap[D]? = some (.deferred (some [])) → d.wpIn F n Try.prog Q { a with defers := { target := .collected D, args := #[] } :: a.defers } W) :
    (Code.rangeFunc g ps assign body).wpIn F n Try.prog Q a w := by
  have hrow : ∀ {A A' : World}, KeptBut (fun r => r = w.heap.size ∨ r = w.heap.size + 1 ∨ ∃ c ∈ [2, 3], r = w.heap.size + 2 + c) A A' → KeptBut (fun r => w.heap.size ≤ r) A A' := fun h => h.mono (fun k _ h => by
    rcases h with h | h | ⟨c, _, h⟩ <;> omega)
  refine wpIn_rangeFunc_B hro (by omega) hg (hfn _) (enters_of Try.func60 (by kernel_rfl) rfl) (truths_seq F hF hd hro hfn (n - 1) (by omega) M hV lev hl pb B w hx hB) (Below.refl _ _) hps
    own (fun k hk => ⟨(hown k hk).2, by have := (hown k hk).1; omega⟩) (fun k hk => by omega) (fun _ _ _ _ _ => trivial) I Ix (fun s A A' h hk => hI s A A' h (hrow hk)) (fun d s A A' h hk => hIx d s A A' h (hrow hk)) h0
    (a₁ a.tmps) (fun W _ => W) (fun W _ => Below.refl _ W) hassign ?_ hdone hstop
  intro l pre x V W hpre hi hk _ _ hV2 _
  exact hbody l pre x V W hpre hi hk hV2 (hx.below (hk.below hB (fun k h => (hown k h).1)))

set_option maxRecDepth 100000 in
set_option maxHeartbeats 4000000 in
theorem hasTruth_in (F : Fence) (hF : Hid (F = Fence.wide)) (hd : F.depth = none) (hro : F.round = none) (hfn : ∀ f, F.fn f) (n : Nat) (hn : 9 ≤ n) (M : Mach) (hV : ValidM M) (pb : Nat) (w : World) (hx : WorkAt w.heap.size w pb M 0) :
    CallsIn F n Try.prog 66 #[.pointer (some ⟨pb, 0, none⟩)] w fun e w' => e = .returned (.bool (!(truthsM M).isEmpty)) ∧ Below w.heap.size w w' := by
  have hgn := grpT_none hV (lev := 0) (by decide)
  have HV := Lib.hid hV
  have HX := Lib.hid hx
  have HG := Lib.hid hgn
  clear hV hx hgn
  refine callsIn_of_wp_marks Try.func66 rfl (hfn _) ?_ hro
  simp only [Try.ntmps66, List.size_toArray, List.length_cons, List.length_nil, Nat.reduceAdd, Nat.reduceSub, Array.replicate_succ, Array.replicate_zero, List.push_toArray, List.append_toArray, List.nil_append, List.cons_append]
  gi_wp2_with fail
  obtain ⟨w2, hw2⟩ : ∃ w2, w2 = w.alloc (.cells #[.bool false] 4) := ⟨_, rfl⟩
  have hs2 : w2.heap.size = w.heap.size + 1 := by rw [hw2]; simp
  have hb2 : Below w.heap.size w w2 := by rw [hw2]; exact (Below.refl _ w).alloc (Nat.le_refl _) _
  have hcx2 : w2.heap[w.heap.size]? = some (.cells #[.bool false] 4) := by rw [hw2]; exact heap_new _ _
  rw [← hw2]
  clear hw2
  have HB2 := Lib.hid hb2
  have hwk2 := HX.out.below hb2
  refine wpIn_truths_bare F hF hd hro hfn (by omega) M HV.out 0 (by omega) pb w.heap.size rfl hwk2 (by omega) rfl (fun k => k = w.heap.size) (fun k hk => by omega)
    (fun pre W => pre = [] ∧ W.heap[w.heap.size]? = some (.cells #[.bool false] 4)) (fun d pre W => d = .ret ∧ pre ≠ [] ∧ W.heap[w.heap.size]? = some (.cells #[.bool true] 4)) (fun s A A' h hk => ⟨h.1, (hk.block _ (heap_lt h.2) (by omega)).trans h.2⟩) (fun d s A A' h hk => ⟨h.1, h.2.1, (hk.block _ (heap_lt h.2.2) (by omega)).trans h.2.2⟩) ⟨rfl, hcx2⟩
    (fun tm W g => { tmps := tm.setIfInBounds 5 (grpV M 0 g), defers := [] }) ?assign ?body ?done ?stop
  case assign =>
    intro l x W K hK
    gi_wp2
    exact hK
  case body =>
    intro l pre x V U hpre hI hkb hV2 hwU
    obtain ⟨d1, d2⟩ := cell1_of hI.2
    have hset := set_box (.bool true) hI.2
    gi_wp2
    exact ⟨KeptBut.setCell _ _ _ rfl, rfl, by simp, hset⟩
  case done =>
    rintro D W hD hkb hI hK
    have hfin : Below w.heap.size w W := (HB2.out).trans (hkb.below (by omega) (fun k hk => by omega))
    have hge : (truthsM M).isEmpty = true := by rw [← HG.out, hI.1]; rfl
    have hbs := set_box (.bool false) hI.2
    have hDn : w.heap.size ≠ D := by omega
    have hKs : (W.setCell ⟨w.heap.size, 0, none⟩ (.bool false)).heap[D]? = some (.deferred (some [])) := (heap_setCell_other hDn).trans hK
    have hcell := (cell1_of ((World.putObj_heap_other (o := .deferred none) hDn).trans hbs)).1
    have hfin2 := (below_setCell hfin (b := w.heap.size) (o := 0) (v := .bool false) (Nat.le_refl _)).trans (putObj_below _ (.deferred none) (show w.heap.size ≤ D by omega))
    obtain ⟨d1, d2⟩ := cell1_of hI.2
    clear hI hkb hwk2 hb2 hcx2
    gi_wp2
    refine ⟨by simp, .inl ⟨_, _, rfl, run_takeDeferred hKs, ?_⟩⟩
    exact ⟨.bool false, by simp [results, Try.results66, go_sem, hcell], by rw [hge]; rfl, hfin2⟩
  case stop =>
    rintro D c pre W hD hkb hpre ⟨rfl, h1, h2⟩ hK
    have hfin : Below w.heap.size w W := (HB2.out).trans (hkb.below (by omega) (fun k hk => by omega))
    have hge : (truthsM M).isEmpty = false := by
      rw [← HG.out]
      cases hg : grpT M 0 with
      | nil => rw [hg] at hpre; exact absurd (List.prefix_nil.1 hpre) h1
      | cons g gs => rfl
    have hDn : w.heap.size ≠ D := by omega
    have hcell := (cell1_of ((World.putObj_heap_other (o := .deferred none) hDn).trans h2)).1
    have hfin2 := hfin.trans (putObj_below W (.deferred none) (show w.heap.size ≤ D by omega))
    clear hkb hwk2 hb2 hcx2
    gi_wp2
    refine ⟨by simp, .inl ⟨_, _, rfl, run_takeDeferred hK, ?_⟩⟩
    exact ⟨.bool true, by simp [results, Try.results66, go_sem, hcell], by rw [hge]; rfl, hfin2⟩
theorem hasTruth_any (M : Mach) (hV : ValidM M) (pb : Nat) (w : World) (hx : WorkAt w.heap.size w pb M 0) :
    Calls Try.prog 66 #[.pointer (some ⟨pb, 0, none⟩)] w fun e w' => e = .returned (.bool (!(truthsM M).isEmpty)) ∧ Below w.heap.size w w' :=
  wide_calls (hasTruth_in Fence.wide rfl rfl rfl (fun _ => trivial) 9 (by omega) M hV pb w hx)
end Go.Proofs.Ytomcjopcfdllgaa
