/-
  Levers: how many truths there are at most.
  Levers, walks: the number of truths.
-/
import Derived.Test.YtomcjopcfdllgaaVRange
import Derived.Test.YtomcjopcfdllgaaVOpen

namespace Go.Proofs.Ytomcjopcfdllgaa

theorem flat_le {α β : Type} (f : α → List β) (c : Nat) : ∀ l : List α, (∀ x ∈ l, (f x).length ≤ c) → (l.flatMap f).length ≤ l.length * c
  | [], _ => by simp
  | x :: l, h => by
    have h1 := h x (by simp)
    have h2 := flat_le f c l (fun y hy => h y (by simp [hy]))
    rw [List.flatMap_cons, List.length_append, List.length_cons, Nat.add_mul]
    omega
theorem range_le (s : Int × Int) (h : 1 ≤ s.1 ∧ s.1 ≤ s.2 ∧ s.2 ≤ 1000) : (rangeL s.1 s.2).length ≤ 1000 := by rw [range_len]; omega
theorem pairs_len_le {A B : Int × Int} (hA : 1 ≤ A.1 ∧ A.1 ≤ A.2 ∧ A.2 ≤ 1000) (hB : 1 ≤ B.1 ∧ B.1 ≤ B.2 ∧ B.2 ≤ 1000) : (pairsL A B).length ≤ 1000000 := by
  unfold pairsL
  have h := flat_le (fun x => (rangeL B.1 B.2).map (fun y => (x, y))) 1000 (rangeL A.1 A.2) (fun x _ => by simp only [List.length_map]; exact range_le B hB)
  have h2 := range_le A hA
  omega
theorem truths_le {M : Mach} (hV : ValidM M) : (truthsM M).length ≤ 21000000000 := by
  have h0 := short_ok hV 0
  have h1 := short_ok hV 1
  have h2 := short_ok hV 2
  have hl := hV.leak
  have e1 : (armsL M.levers).length = (prodsL (shortOf M.levers 0) (shortOf M.levers 1) (shortOf M.levers 2)).length := by rw [← prods_eq hV.nl, List.length_map]
  have e2 : (prodsL (shortOf M.levers 0) (shortOf M.levers 1) (shortOf M.levers 2)).length ≤ 1000000000 := by
    unfold prodsL
    have h := flat_le (fun a => (pairsL (shortOf M.levers 1) (shortOf M.levers 2)).map (fun p => a * (p.1 * p.2))) 1000000 (rangeL (shortOf M.levers 0).1 (shortOf M.levers 0).2) (fun x _ => by simp only [List.length_map]; exact pairs_len_le h1 h2)
    have h3 := range_le _ h0
    omega
  have e3 : (setsM M).length ≤ (armsL M.levers).length * 21 := flat_le _ 21 _ (fun x _ => by simp only [List.length_map, range_len]; omega)
  rw [truths_are]
  have := List.length_filter_le (fun s : List Int × Int => truthB M s.2 (prodL s.1)) (setsM M)
  omega
def sumG (l : List Grp) : Nat := (l.map (fun g => g.many)).sum
theorem sumG_snoc (l : List Grp) (g : Grp) : sumG (l ++ [g]) = sumG l + g.many := by simp [sumG]
theorem sumG_pre {a b : List Grp} (h : a <+: b) : sumG a ≤ sumG b := by
  obtain ⟨c, rfl⟩ := h
  simp [sumG]
end Go.Proofs.Ytomcjopcfdllgaa

namespace Go.Proofs.Ytomcjopcfdllgaa
open Go.RowKit Go.Shelf

attribute [local go_sem] Oper.semAt_some

/-- The error where there are n truths. -/
def noneE (n : Nat) : Int := if n = 0 then 3 else 0
theorem noneE_pos {n : Nat} (h : ¬ n = 0) : noneE n = 0 := by simp [noneE, h]
theorem wide_calls {f : FuncId} {args : Array Value} {w : World} {R : Ending → World → Prop} {n : Nat} (h : CallsIn Fence.wide n Try.prog f args w R) : Calls Try.prog f args w R := callsIn_wide.1 h

theorem set_box {W : World} {b : Nat} {u : Value} {t : TypeId} (v : Value) (h : W.heap[b]? = some (.cells #[u] t)) : (W.setCell ⟨b, 0, none⟩ v).heap[b]? = some (.cells #[v] t) := heap_setCell_same h
set_option maxRecDepth 100000 in
set_option maxHeartbeats 4000000 in
theorem Many_in (F : Fence) (hF : Hid (F = Fence.wide)) (hd : F.depth = none) (hro : F.round = none) (hfn : ∀ f, F.fn f) (n : Nat) (hn : 9 ≤ n) (v : Value) (M : Mach) (w : World) (hx : MachAt w.heap.size w v M) (hV : validMB M = true) :
    CallsIn F n Try.prog 28 #[v] w fun e w' => e = .returned (.tuple #[.int .i64 (truthsM M).length, .int .i64 (noneE (truthsM M).length)]) ∧ Below w.heap.size w w' := by
  have hV' := validM_iff.1 hV
  have hlt := truths_le hV'
  have hmg := many_grp hV'
  have HX := Lib.hid (fun W (hb : Below w.heap.size w W) => (hx.below hb).mono hb.size)
  obtain ⟨a, cap, a2, cap2, rfl⟩ := hx.form
  have HV := Lib.hid hV
  have HV' := Lib.hid hV'
  have HLT := Lib.hid hlt
  have HMG := Lib.hid hmg
  clear hx hV hV' hlt hmg
  refine callsIn_of_wp_marks Try.func28 rfl (hfn _) ?_ hro
  simp only [Try.ntmps28, List.size_toArray, List.length_cons, List.length_nil, Nat.reduceAdd, Nat.reduceSub, Array.replicate_succ, Array.replicate_zero, List.push_toArray, List.append_toArray, List.nil_append, List.cons_append]
  gi_wp2_with fail
  refine (inF hF (open_ok _ M _ _ _ _ (HX.out _ (by go_grown)) HV.out (by decide))).mono ?_
  rintro e w1 ⟨pb, rfl, hwk, hb1⟩
  have hsz := hb1.size
  simp only [World.size_alloc] at hsz
  have hbw : Below w.heap.size w w1 := (((Below.refl _ w).alloc (Nat.le_refl _) _)).trans (hb1.mono (by simp))
  have HWK := Lib.hid hwk
  have HBW := Lib.hid hbw
  clear hb1 hwk hbw
  gi_wp2_with fail
  obtain ⟨w2, hw2⟩ : ∃ w2, w2 = w1.alloc (.cells #[.int .i64 0] 3) := ⟨_, rfl⟩
  have hs2 : w2.heap.size = w1.heap.size + 1 := by rw [hw2]; simp
  have hb2 : Below w1.heap.size w1 w2 := by rw [hw2]; exact (Below.refl _ w1).alloc (Nat.le_refl _) _
  have hcx2 : w2.heap[w1.heap.size]? = some (.cells #[.int .i64 (sumG [] : Nat)] 3) := by rw [hw2]; exact heap_new _ _
  rw [← hw2]
  clear hw2
  have HB2 := Lib.hid hb2
  have hwk2 := HWK.out.below hb2
  refine wpIn_truths F hF hd hro hfn (by omega) M HV'.out 0 (by omega) pb w1.heap.size rfl hwk2 (by omega) rfl (fun k => k = w1.heap.size) (fun k hk => by omega)
    (fun pre W => W.heap[w1.heap.size]? = some (.cells #[.int .i64 (sumG pre : Nat)] 3)) (fun _ _ _ => False) (fun s A A' h hk => (hk.block _ (heap_lt h) (by omega)).trans h) (fun _ _ _ _ h _ => h) hcx2
    (fun tm W g => { tmps := (tm.setIfInBounds 18 (grpV M 0 g)).setIfInBounds 7 (.pointer (some ⟨W.heap.size, 0, none⟩)), defers := [] }) ?assign ?body ?done ?stop
  case assign =>
    intro l x W K hK
    rw [grpV_eq] at hK ⊢
    obtain ⟨x0, x1, x2, y0, y1, y2, lk, gm, hgc⟩ : ∃ x0 x1 x2 y0 y1 y2 lk gm, grpC M 0 x = nine x0 x1 x2 lk y0 y1 y2 gm := ⟨_, _, _, _, _, _, _, _, rfl⟩
    rw [hgc] at hK ⊢
    unfold nine at hK ⊢
    gi_wp2
    exact hK
  case body =>
    intro l pre x V U hpre hI hkb hV2 hVU hgb hwU
    have hle : sumG pre + x.many ≤ 21000000000 := by
      have h1 := sumG_pre hpre
      rw [sumG_snoc] at h1
      have h2 : sumG (grpT M 0) = (truthsM M).length := HMG.out
      have h3 := HLT.out
      omega
    rw [grpV_eq]
    obtain ⟨x0, x1, x2, y0, y1, y2, lk, hgc⟩ : ∃ x0 x1 x2 y0 y1 y2 lk, grpC M 0 x = nine x0 x1 x2 lk y0 y1 y2 x.many := ⟨_, _, _, _, _, _, _, rfl⟩
    rw [hgc] at hgb ⊢
    unfold nine at hgb ⊢
    obtain ⟨g0, g1, g2, g3, g4, g5, g6, g7, g8⟩ := cells9 hgb
    obtain ⟨d1, d2⟩ := cell1_of hI
    have HI1 := Lib.hid hI
    have HSN := Lib.hid (sumG_snoc pre x)
    obtain ⟨sp, hsp⟩ : ∃ s, sumG pre = s := ⟨_, rfl⟩
    obtain ⟨gm, hgm⟩ : ∃ s, x.many = s := ⟨_, rfl⟩
    rw [hsp] at d1 hle HI1 HSN
    rw [hgm] at g8 hle HSN ⊢
    clear hI hpre hcx2 hb2 hwk2 hgb hwU hkb hsp hgm
    gi_wp2
    exact ⟨KeptBut.setCell _ _ _ rfl, by (show (U.setCell _ _).heap[w1.heap.size]? = some (.cells #[.int .i64 (sumG (pre ++ [x]) : Nat)] 3)); rw [HSN.out, Int.natCast_add]; exact set_box _ HI1.out⟩
  case done =>
    rintro D W hD hkb hI hK
    have hfin : Below w.heap.size w (W.putObj D (.deferred none)) := ((HBW.out.trans (HB2.out.mono HBW.out.size)).trans (hkb.below (by have := HBW.out.size; omega) (fun k hk => by have := HBW.out.size; omega))).trans (putObj_below _ _ (by have := HBW.out.size; omega))
    obtain ⟨d1, d2⟩ := cell1_of hI
    have hle := HLT.out
    have hsg : sumG (grpT M 0) = (truthsM M).length := HMG.out
    obtain ⟨T, hT⟩ : ∃ T, (truthsM M).length = T := ⟨_, rfl⟩
    rw [hsg, hT] at d1
    rw [hT] at hle
    have HT := Lib.hid hT
    clear hT hI hcx2 hb2 hwk2 HLT hsg HMG
    by_cases hz : T = 0
    · subst hz
      gi_wp2
      refine ⟨by simp, .inl ⟨_, _, rfl, run_takeDeferred hK, ?_⟩⟩
      exact ⟨_, results_tmp2 rfl _ _ _, by rw [HT.out]; rfl, hfin⟩
    · have hz1 : ((T : Int) == 0) = false := by simp; omega
      gi_wp2
      refine ⟨by simp, .inl ⟨_, _, rfl, run_takeDeferred hK, ?_⟩⟩
      exact ⟨_, results_tmp2 rfl _ _ _, by rw [HT.out, noneE_pos hz]; rfl, hfin⟩
  case stop =>
    rintro D c pre W _ _ _ h _
    exact h.elim
theorem Many_any (v : Value) (M : Mach) (w : World) (hx : MachAt w.heap.size w v M) (hV : validMB M = true) :
    Calls Try.prog 28 #[v] w fun e w' => e = .returned (.tuple #[.int .i64 (truthsM M).length, .int .i64 (noneE (truthsM M).length)]) ∧ Below w.heap.size w w' :=
  wide_calls (Many_in Fence.wide rfl rfl rfl (fun _ => trivial) 9 (by omega) v M w hx hV)
end Go.Proofs.Ytomcjopcfdllgaa
