/-
  Levers, the theorem of the fair lever: the law's body.
-/
import Derived.Test.YtomcjopcfdllgaaVTwo
import Derived.Test.YtomcjopcfdllgaaVAlikeL

namespace Go.Proofs.Ytomcjopcfdllgaa
open Go.RowKit Go.Shelf

theorem ask3_iff {x y z : Int} : ask3 x y z = true ↔ (0 ≤ x ∧ x ≤ 9999) ∧ (0 ≤ y ∧ y ≤ 99) ∧ 0 ≤ z ∧ z ≤ 999999999 := by
  simp only [ask3, Bool.and_eq_true, wB_iff, and_assoc]
/-- The first i levers laid from the other end. -/
def revTo (ls : List Lev) : Nat → List Lev
  | 0 => ls
  | i + 1 => (revTo ls i).set (ls.length - 1 - i) (lnth ls i)
theorem revTo_len (ls : List Lev) : ∀ i, (revTo ls i).length = ls.length
  | 0 => rfl
  | i + 1 => by rw [revTo, List.length_set, revTo_len ls i]
theorem revTo_at (ls : List Lev) : ∀ i j, i ≤ ls.length → j < ls.length → (revTo ls i)[j]? = if ls.length ≤ i + j then ls[ls.length - 1 - j]? else ls[j]?
  | 0, j, _, hj => by rw [if_neg (by omega)]; rfl
  | i + 1, j, hi, hj => by
    rw [revTo, List.getElem?_set, revTo_len]
    by_cases e : ls.length - 1 - i = j
    · rw [if_pos e, if_pos (by omega), if_pos (by omega), lnth_lt (by omega), show ls.length - 1 - j = i by omega, List.getElem?_eq_getElem (by omega)]
    · rw [if_neg e, revTo_at ls i j (by omega) hj]
      by_cases h : ls.length ≤ i + j
      · rw [if_pos h, if_pos (by omega)]
      · rw [if_neg h, if_neg (by omega)]
theorem revTo_all (ls : List Lev) : revTo ls ls.length = ls.reverse := by
  apply List.ext_getElem?
  intro j
  by_cases h : j < ls.length
  · rw [revTo_at ls ls.length j (Nat.le_refl _) h, if_pos (by omega), List.getElem?_reverse h]
  · rw [List.getElem?_eq_none (by rw [revTo_len]; omega), List.getElem?_eq_none (by rw [List.length_reverse]; omega)]
theorem lcells_set (x : Lev) : ∀ (ls : List Lev) (j : Nat), j < ls.length → (((lcells ls).set (j * 3) (.int .i64 x.long)).set (j * 3 + 1) (.int .i64 x.lo)).set (j * 3 + 2) (.int .i64 x.hi) = lcells (ls.set j x)
  | [], j, h => by simp at h
  | l :: ls, 0, _ => by simp [lcells, lcell]
  | l :: ls, j + 1, h => by
    have ih := lcells_set x ls j (by simpa using h)
    have e : lcells (l :: ls) = .int .i64 l.long :: .int .i64 l.lo :: .int .i64 l.hi :: lcells ls := by simp [lcells, lcell]
    have e2 : lcells ((l :: ls).set (j + 1) x) = .int .i64 l.long :: .int .i64 l.lo :: .int .i64 l.hi :: lcells (ls.set j x) := by simp [lcells, lcell]
    rw [e, e2, ← ih, show (j + 1) * 3 = j * 3 + 3 by omega, show j * 3 + 3 + 1 = j * 3 + 1 + 3 by omega, show j * 3 + 3 + 2 = j * 3 + 2 + 3 by omega]
    rfl
/-- What holds while the levers of the first copy are turned. -/
structure FairI (lo : Nat) (W : World) (M : Mach) (B U : Nat) (lo1 lb1 lo2 lb2 : Value) (i : Nat) : Prop where
  vB : W.heap[B]? = some (.cells #[lo1, .int .i64 M.water, .int .i64 M.lkLo, .int .i64 M.lkHi, lb1, .int .i64 M.wrong] 27)
  vU : W.heap[U]? = some (.cells #[lo2, .int .i64 M.water, .int .i64 M.lkLo, .int .i64 M.lkHi, lb2, .int .i64 M.wrong] 27)
  r1 : W.ownsRow lo 63 3 lo1 M.levers.length (lcells (revTo M.levers i))
  r2 : W.ownsRow lo 51 4 lb1 M.bals.length (bcells M.bals)
  r3 : W.ownsRow lo 63 3 lo2 M.levers.length (lcells M.levers)
  r4 : W.ownsRow lo 51 4 lb2 M.bals.length (bcells M.bals)
theorem FairI.start {lo : Nat} {W : World} {M : Mach} {B U : Nat} {lo1 lb1 lo2 lb2 : Value} (h : TwoM lo W M B U lo1 lb1 lo2 lb2) : FairI lo W M B U lo1 lb1 lo2 lb2 0 := ⟨h.vB, h.vU, h.rows.1.1, h.rows.1.2, h.rows.2.1, h.rows.2.2⟩
theorem FairI.below {lo : Nat} {W W' : World} {M : Mach} {B U : Nat} {lo1 lb1 lo2 lb2 : Value} {i : Nat} (h : FairI lo W M B U lo1 lb1 lo2 lb2 i) (hb : Below W.heap.size W W') : FairI lo W' M B U lo1 lb1 lo2 lb2 i :=
  ⟨(hb.block B (heap_lt h.vB)).trans h.vB, (hb.block U (heap_lt h.vU)).trans h.vU, own_below h.r1 hb, own_below h.r2 hb, own_below h.r3 hb, own_below h.r4 hb⟩
theorem FairI.next {lo : Nat} {W : World} {M : Mach} {B U g c : Nat} {lb1 lo2 lb2 : Value} {i : Nat} (h : FairI lo W M B U (.slice (some ⟨g, 0, none⟩) M.levers.length c) lb1 lo2 lb2 i) (hi : i < M.levers.length) (hap : lo2.ownBlock ≠ some g) :
    FairI lo (((W.setCell ⟨g, (M.levers.length - 1 - i) * 3, none⟩ (.int .i64 (lnth M.levers i).long)).setCell ⟨g, (M.levers.length - 1 - i) * 3 + 1, none⟩ (.int .i64 (lnth M.levers i).lo)).setCell ⟨g, (M.levers.length - 1 - i) * 3 + 2, none⟩ (.int .i64 (lnth M.levers i).hi)) M B U (.slice (some ⟨g, 0, none⟩) M.levers.length c) lb1 lo2 lb2 (i + 1) := by
  obtain ⟨cur, hg⟩ := own_heap h.r1
  have hgB : g ≠ B := by rintro rfl; rw [h.vB] at hg; injection hg with hg; injection hg with _ ht; exact absurd ht (by decide)
  have hgU : g ≠ U := by rintro rfl; rw [h.vU] at hg; injection hg with hg; injection hg with _ ht; exact absurd ht (by decide)
  have hnb : ∀ {v : Value}, W.ownsRow lo 51 4 v M.bals.length (bcells M.bals) → v.ownBlock ≠ some g := fun {v} hr he => by
    obtain ⟨_, ⟨rfl, _⟩ | ⟨g', cap, cur', rfl, _, hh, _⟩⟩ := hr
    · cases he
    · have : g' = g := by simpa [Value.ownBlock] using he
      subst this
      rw [hg] at hh; injection hh with hh; injection hh with _ ht; exact absurd ht (by decide)
  have k3 : ∀ {v : Value} {n s : Nat} {e : TypeId} {xs : List Value} {p q r : Nat} {a b d : Value}, W.ownsRow lo e s v n xs → v.ownBlock ≠ some g → (((W.setCell ⟨g, p, none⟩ a).setCell ⟨g, q, none⟩ b).setCell ⟨g, r, none⟩ d).ownsRow lo e s v n xs := fun hr hn =>
    ownsRow_setCell_other (ownsRow_setCell_other (ownsRow_setCell_other hr hn _) hn _) hn _
  refine ⟨(heap_setCell_other hgB).trans ((heap_setCell_other hgB).trans ((heap_setCell_other hgB).trans h.vB)), (heap_setCell_other hgU).trans ((heap_setCell_other hgU).trans ((heap_setCell_other hgU).trans h.vU)), ?_, k3 h.r2 (hnb h.r2), k3 h.r3 hap, k3 h.r4 (hnb h.r4)⟩
  have hj : M.levers.length - 1 - i < (revTo M.levers i).length := by rw [revTo_len]; omega
  rw [show revTo M.levers (i + 1) = (revTo M.levers i).set (M.levers.length - 1 - i) (lnth M.levers i) from rfl, ← lcells_set _ _ _ hj]
  exact own_setSelf (own_setSelf (own_setSelf h.r1 (by omega)) (by omega)) (by omega)
theorem three_new (w : World) (a b c : Value) (t : TypeId) : CellsFrom (w.alloc (.cells #[a, b, c] t)) (some ⟨w.heap.size, 0, none⟩) 1 3 [a, b, c] := by
  refine ⟨rfl, fun _ => ⟨_, rfl, fun j u hu => ?_⟩⟩
  obtain ⟨h0, h1, h2⟩ := cells3 (heap_new w (.cells #[a, b, c] t))
  rw [add_plain0, Nat.zero_add]
  match j, hu with
  | 0, hu => simp at hu; rw [← hu]; exact h0
  | 1, hu => simp at hu; rw [← hu]; exact h1
  | 2, hu => simp at hu; rw [← hu]; exact h2
theorem lev_i64 {M : Mach} (hV : ValidM M) {l : Lev} (hl : l ∈ M.levers) : LI64 l := by
  have h := hV.lev l hl
  unfold LI64 I64
  omega
theorem bal_i64 {M : Mach} (hV : ValidM M) : ∀ i, i < M.bals.length → BI64 (bnth M.bals i) := fun i h => by
  have h := hV.bal (bnth M.bals i) (by rw [bnth_lt h]; exact List.getElem_mem h)
  unfold BI64 I64
  omega
theorem mach_i64 {M : Mach} (hV : ValidM M) : I64 M.water ∧ I64 M.lkLo ∧ I64 M.lkHi ∧ I64 M.wrong := by
  have h1 := hV.water
  have h2 := hV.leak
  have h3 := hV.wrong
  unfold I64
  omega
theorem rev_at {Z : World} {M : Mach} (hV : ValidM M) {base : Nat} {v u : Value} (h1 : Z.ownsRow base 63 3 v M.levers.length (lcells (revTo M.levers M.levers.length))) (h2 : Z.ownsRow base 51 4 u M.bals.length (bcells M.bals)) :
    MachAt Z.heap.size Z (.agg #[v, .int .i64 M.water, .int .i64 M.lkLo, .int .i64 M.lkHi, u, .int .i64 M.wrong]) { M with levers := M.levers.reverse } := by
  rw [revTo_all] at h1
  refine ⟨_, _, rfl, levs_of_own (by rw [List.length_reverse]; exact h1) (fun i hi => ?_), bals_of_own (bs := M.bals) h2 (bal_i64 hV), (mach_i64 hV : I64 M.water ∧ I64 M.lkLo ∧ I64 M.lkHi ∧ I64 M.wrong)⟩
  rw [lnth_lt hi]
  exact lev_i64 hV (List.mem_reverse.1 (List.getElem_mem hi))
theorem fair_at {Z : World} {M : Mach} (hV : ValidM M) {arm : Int} (ha : 1 ≤ arm ∧ arm ≤ 1000) {base : Nat} {v u : Value} (h1 : Z.ownsRow base 63 3 v (M.levers.length + 1) (lcells M.levers ++ [.int .i64 arm, .int .i64 arm, .int .i64 arm])) (h2 : Z.ownsRow base 51 4 u M.bals.length (bcells M.bals)) :
    MachAt Z.heap.size Z (.agg #[v, .int .i64 M.water, .int .i64 M.lkLo, .int .i64 M.lkHi, u, .int .i64 M.wrong]) (fairM M arm) := by
  have e : lcells M.levers ++ [.int .i64 arm, .int .i64 arm, .int .i64 arm] = lcells (M.levers ++ [⟨arm, arm, arm⟩]) := by simp [lcells, lcell]
  rw [e] at h1
  refine ⟨_, _, rfl, levs_of_own (ls := M.levers ++ [⟨arm, arm, arm⟩]) (by rw [List.length_append]; exact h1) (fun i hi => ?_), bals_of_own (bs := M.bals) h2 (bal_i64 hV), (mach_i64 hV : I64 M.water ∧ I64 M.lkLo ∧ I64 M.lkHi ∧ I64 M.wrong)⟩
  rw [lnth_lt hi]
  rcases List.mem_append.1 (List.getElem_mem hi) with h | h
  · exact lev_i64 hV h
  · rw [List.mem_singleton.1 h]
    show I64 arm ∧ I64 arm ∧ I64 arm
    unfold I64
    omega
theorem lev_read {B : Nat} {w : World} {M : Mach} {a : Option Addr} {cap : Nat} {v1 v2 v3 v4 v5 : Value} (h : MachAt B w (.agg #[.slice a M.levers.length cap, v1, v2, v3, v4, v5]) M) (hn : 0 < M.levers.length) :
    ∃ bb off, a = some ⟨bb, off, none⟩ ∧ bb < B ∧ ∀ i, i < M.levers.length → Three w bb (off + i * 3) (lnth M.levers i).long (lnth M.levers i).lo (lnth M.levers i).hi := by
  obtain ⟨lv, bv, hv, ⟨a', cap', b, off, rfl, _, _, ha, hc, _⟩, _⟩ := h
  injection hv with hv
  injection hv with hv
  injection hv with h1 _
  injection h1 with h1 _ _
  subst h1
  exact ⟨b, off, (ha hn).1, (ha hn).2, hc⟩
theorem row_cells {w : World} {base g n c : Nat} {ls : List Lev} {J : Nat} (h : w.ownsRow base 63 3 (.slice (some ⟨g, 0, none⟩) n c) n (lcells ls)) (hJ : J < n) : (∃ v, w.cell? ⟨g, J * 3, none⟩ = some v) ∧ (∃ v, w.cell? ⟨g, J * 3 + 1, none⟩ = some v) ∧ ∃ v, w.cell? ⟨g, J * 3 + 2, none⟩ = some v := by
  obtain ⟨hlen, ⟨hv, _⟩ | ⟨g', cap, cur, hv, _, hh, hn, _, hs, ht⟩⟩ := h
  · cases hv
  · injection hv with h1 _ _
    injection h1 with h1
    injection h1 with h1
    subst h1
    have hsz : n * 3 ≤ cur.size := by
      have : (lcells ls).length = n * 3 := hlen
      rw [← ht, List.length_take] at this
      simp at this; omega
    have key : ∀ k, k < n * 3 → ∃ v, w.cell? ⟨g, k, none⟩ = some v := fun k hk => ⟨cur[k]'(by omega), by simp [World.cell?, hh]⟩
    exact ⟨key _ (by omega), key _ (by omega), key _ (by omega)⟩
theorem row_frozen {w : World} {base g n c s : Nat} {e : TypeId} {xs : List Value} (h : w.ownsRow base e s (.slice (some ⟨g, 0, none⟩) n c) n xs) (k : Nat) : w.frozen? ⟨g, k, none⟩ = false := by
  obtain ⟨cur, hg⟩ := own_heap h
  exact froz hg k
theorem row_lt {w : World} {base g n c s : Nat} {e : TypeId} {xs : List Value} (h : w.ownsRow base e s (.slice (some ⟨g, 0, none⟩) n c) n xs) : g < w.heap.size := by
  obtain ⟨cur, hg⟩ := own_heap h
  exact heap_lt hg
theorem bare_at (W : World) {x : Int} (h : 0 ≤ x ∧ x ≤ 9999) : MachAt W.heap.size W (.agg #[.slice none 0 0, .int .i64 x, .int .i64 0, .int .i64 0, .slice none 0 0, .int .i64 0]) (bareM x) :=
  ⟨_, _, rfl, ⟨none, 0, 0, 0, rfl, Nat.le_refl _, by unfold maxLen; omega, fun h => by simp [bareM] at h, fun i h => by simp [bareM] at h, fun i h => by simp [bareM] at h⟩, ⟨none, 0, 0, 0, rfl, Nat.le_refl _, by unfold maxLen; omega, fun h => by simp [bareM] at h, fun i h => by simp [bareM] at h, fun i h => by simp [bareM] at h⟩, by show I64 x; unfold I64; omega, ⟨by show -9223372036854775808 ≤ (0 : Int); decide, by show (0 : Int) ≤ 9223372036854775807; decide⟩, ⟨by show -9223372036854775808 ≤ (0 : Int); decide, by show (0 : Int) ≤ 9223372036854775807; decide⟩, ⟨by show -9223372036854775808 ≤ (0 : Int); decide, by show (0 : Int) ≤ 9223372036854775807; decide⟩⟩
set_option maxRecDepth 100000 in
set_option maxHeartbeats 8000000 in
theorem LeversFair_any (v : Value) (M : Mach) (arm x0 x1 x2 : Int) (w : World) (hx : MachAt w.heap.size w v M) (hi : I64 arm ∧ I64 x0 ∧ I64 x1 ∧ I64 x2) :
    Calls Try.prog 7 #[v, .int .i64 arm, .agg #[.int .i64 x0, .int .i64 x1, .int .i64 x2]] w fun e w' => e = .returned (.bool true) ∧ Below w.heap.size w w' := by
  have HX := Lib.hid (fun W (hb : Below w.heap.size w W) => (hx.below hb).mono hb.size)
  obtain ⟨a, cap, a2, cap2, rfl⟩ := hx.form
  clear hx
  unfold I64 at hi
  go_enter Try.func7, Try.ntmps7
  go_wp2_with fail
  obtain ⟨W, hW⟩ : ∃ W, W = (w.alloc (.cells #[.slice a M.levers.length cap, .int .i64 M.water, .int .i64 M.lkLo, .int .i64 M.lkHi, .slice a2 M.bals.length cap2, .int .i64 M.wrong] 27)).alloc (.cells #[.int .i64 x0, .int .i64 x1, .int .i64 x2] 32) := ⟨_, rfl⟩
  have hb : Below w.heap.size w W := by rw [hW]; exact ((Below.refl _ w).alloc (Nat.le_refl _) _).alloc (by simp) _
  have hsz : W.heap.size = w.heap.size + 2 := by rw [hW]; simp
  have e0 : W.heap[w.heap.size]? = some (.cells #[.slice a M.levers.length cap, .int .i64 M.water, .int .i64 M.lkLo, .int .i64 M.lkHi, .slice a2 M.bals.length cap2, .int .i64 M.wrong] 27) := by rw [hW]; exact heap_old1 _ _ _
  have e1 : W.heap[w.heap.size + 1]? = some (.cells #[.int .i64 x0, .int .i64 x1, .int .i64 x2] 32) := by rw [hW]; exact heap_new1 _ _ _
  rw [← hW]
  clear hW
  have HB := Lib.hid hb
  have HM := Lib.hid (fun X (hX : Below W.heap.size W X) => HX.out X (hb.trans (hX.mono hb.size)))
  have HC := Lib.hid (fun X (hX : Below W.heap.size W X) => (show _ ∧ _ from ⟨cells6 ((hX.block w.heap.size (by omega)).trans e0), cells3 ((hX.block (w.heap.size + 1) (by omega)).trans e1)⟩))
  have HWK := Lib.hid (fun X (hX : Below W.heap.size W X) => (works_any X).mono (fun e w' (h : e = .returned (.bool true) ∧ Below X.heap.size X w') => (show e = .returned (.bool true) ∧ Below w.heap.size w w' from ⟨h.1, (hb.trans (hX.mono hb.size)).trans (h.2.mono (Nat.le_trans hb.size hX.size))⟩)))
  have hwlt : w.heap.size < W.heap.size := by omega
  clear e0 e1 hb hsz
  refine (ready_any _ M W (HM.out W (Below.refl _ _))).mono ?_
  rintro e w1 ⟨⟨r, rfl, hr⟩, hb⟩
  have HB1 := Lib.hid hb
  obtain ⟨⟨c0, c1, c2, c3, c4, c5⟩, f0, f1, f2⟩ := HC.out w1 hb
  clear hb
  cases r with
  | false =>
    go_wp2_with (go_at_call 14; refine (HWK.out _ HB1.out).mono ?_; rintro e wz ⟨rfl, hbz⟩; have HBZ := Lib.hid hbz; clear hbz)
    go_ret
    exact ⟨rfl, HBZ.out⟩
  | true =>
    have HV := Lib.hid (validM_iff.1 (hr rfl))
    have HVB := Lib.hid (hr rfl)
    clear hr
    go_wp2_with fail
    refine (isAsk_any x0 x1 x2 w1).mono ?_
    rintro e w2 ⟨rfl, hb⟩
    have HB2 := Lib.hid (HB1.out.trans (hb.mono HB1.out.size))
    clear hb
    clear c0 c1 c2 c3 c4 c5 f0 f1 f2
    obtain ⟨⟨c0, c1, c2, c3, c4, c5⟩, f0, f1, f2⟩ := HC.out w2 HB2.out
    cases h1 : ask3 x0 x1 x2 with
    | false =>
      go_wp2_with (go_at_call 14; refine (HWK.out _ HB2.out).mono ?_; rintro e wz ⟨rfl, hbz⟩; have HBZ := Lib.hid hbz; clear hbz)
      go_ret
      exact ⟨rfl, HBZ.out⟩
    | true =>
      obtain ⟨hx0, hx1, hx2⟩ := ask3_iff.1 h1
      clear h1
      by_cases hk1 : arm < 1
      · go_wp2_with (go_at_call 14; refine (HWK.out _ HB2.out).mono ?_; rintro e wz ⟨rfl, hbz⟩; have HBZ := Lib.hid hbz; clear hbz)
        go_ret
        exact ⟨rfl, HBZ.out⟩
      by_cases hk2 : 1000 < arm
      · go_wp2_with (go_at_call 14; refine (HWK.out _ HB2.out).mono ?_; rintro e wz ⟨rfl, hbz⟩; have HBZ := Lib.hid hbz; clear hbz)
        go_ret
        exact ⟨rfl, HBZ.out⟩
      have hn2 := heap_new w2 (.cells #[.slice none 0 0, .int .i64 M.water, .int .i64 0, .int .i64 0, .slice none 0 0, .int .i64 0] 27)
      obtain ⟨n0, n1, n2, n3, n4, n5⟩ := cells6 hn2
      have hb2 := HB2.out.alloc HB2.out.size (.cells #[.slice none 0 0, .int .i64 M.water, .int .i64 0, .int .i64 0, .slice none 0 0, .int .i64 0] 27)
      clear c0 c1 c2 c3 c4 c5 f0 f1 f2
      obtain ⟨⟨c0, c1, c2, c3, c4, c5⟩, f0, f1, f2⟩ := HC.out w2 HB2.out
      obtain ⟨⟨g0, g1, g2, g3, g4, g5⟩, j0, j1, j2⟩ := HC.out _ hb2
      have HB3 := Lib.hid hb2
      have HN3 := Lib.hid hn2
      clear hb2 hn2
      go_wp2_with fail
      obtain ⟨X3, hX3⟩ : ∃ X3, w2.alloc (.cells #[.slice none 0 0, .int .i64 M.water, .int .i64 0, .int .i64 0, .slice none 0 0, .int .i64 0] 27) = X3 := ⟨_, rfl⟩
      rw [hX3] at HB3 HN3 ⊢
      clear hX3 n0 n1 n2 n3 n4 n5 g0 g1 g2 g3 g4 g5 j0 j1 j2
      clear c0 c1 c2 c3 c4 c5 f0 f1 f2
      have hwt := HV.out.water
      have hL := Load_any _ (bareM M.water) x0 x1 X3 (bare_at X3 hwt) (validM_iff.2 (bare_valid hwt)) (askB_of hx0 hx1)
      rw [bare_load hwt hx0] at hL
      refine hL.mono ?_
      rintro e w4 ⟨rfl, hb⟩
      have HB4 := Lib.hid (HB3.out.trans (hb.mono HB3.out.size))
      clear hb hL
      obtain ⟨NW, hNW⟩ : ∃ NW, x0 + M.water = NW := ⟨_, rfl⟩
      have hw1 : wrap64 (x0 + M.water) = NW := by rw [← hNW]; exact wrap_in (by omega)
      have hw2 : IntKind.i64.wrap (x0 + M.water) = NW := by rw [← hNW]; exact IntWalk.i64_in _ (by omega)
      rw [hNW]
      clear hNW
      have hn4 := heap_new w4 (.cells #[.int .i64 NW, .int .i64 NW] 24)
      obtain ⟨s0, s1⟩ := cell2_of hn4
      have hb4 := HB4.out.alloc HB4.out.size (.cells #[.int .i64 NW, .int .i64 NW] 24)
      obtain ⟨⟨c0, c1, c2, c3, c4, c5⟩, f0, f1, f2⟩ := HC.out _ hb4
      have HB5 := Lib.hid hb4
      clear hb4 hn4
      go_upto_region 8 with fail
      obtain ⟨X5, hX5⟩ : ∃ X5, w4.alloc (.cells #[.int .i64 NW, .int .i64 NW] 24) = X5 := ⟨_, rfl⟩
      rw [hX5] at HB5 ⊢
      have hs5 : X5.heap.size = w4.heap.size + 1 := by rw [← hX5]; simp
      clear hX5 s0 s1
      clear c0 c1 c2 c3 c4 c5 f0 f1 f2
      have hnl40 : M.levers.length ≤ 40 := by have := HV.out.nl; omega
      have hnb40 : M.bals.length ≤ 40 := by have := HV.out.nb; omega
      refine wp_region_factsK _ 6 [57, 58, 59, 60, 11, 12] (psM X5.heap.size (.agg #[.slice a M.levers.length cap, .int .i64 M.water, .int .i64 M.lkLo, .int .i64 M.lkHi, .slice a2 M.bals.length cap2, .int .i64 M.wrong]) M) keyM (by kernel_rfl) (by kernel_rfl) (by kernel_rfl) rfl (by decide) (by decide) (by simp) keyM_lt ?step ?rest
      case step =>
        intro i ac W d hi hd hb hoff hdep
        have hlo := hb.size
        have hbW := HB5.out.trans (hb.mono HB5.out.size)
        obtain ⟨⟨c0, c1, c2, c3, c4, c5⟩, _⟩ := HC.out W hbW
        have hi2 : i = 0 ∨ i = 1 ∨ i = 2 ∨ i = 3 ∨ i = 4 ∨ i = 5 := by omega
        rcases hi2 with rfl | rfl | rfl | rfl | rfl | rfl
        · obtain rfl : 57 = d := by simpa using hd
          have q3 : ac.tmps[3]?.getD undef = .pointer (some ⟨w.heap.size, 0, none⟩) := (eval_tmp _ _).symm.trans <| (hoff 3 (by decide)).trans rfl
          refine factK (fun _ => rfl) ?_
          refine fact_value rfl rfl rfl (v := .agg #[.slice a M.levers.length cap, .int .i64 M.water, .int .i64 M.lkLo, .int .i64 M.lkHi, .slice a2 M.bals.length cap2, .int .i64 M.wrong]) (W' := W) ?_ (Below.refl _ _) rfl
          simp only [execOp]
          go_simp
        · obtain rfl : 58 = d := by simpa using hd
          have q57 : ac.tmps[57]?.getD undef = .agg #[.slice a M.levers.length cap, .int .i64 M.water, .int .i64 M.lkLo, .int .i64 M.lkHi, .slice a2 M.bals.length cap2, .int .i64 M.wrong] := (eval_tmp _ _).symm.trans (hdep 0 57 rfl rfl)
          refine fact_callK rfl rfl rfl (f := 30) (args := #[.agg #[.slice a M.levers.length cap, .int .i64 M.water, .int .i64 M.lkLo, .int .i64 M.lkHi, .slice a2 M.bals.length cap2, .int .i64 M.wrong]]) ?_ ?_
          · simp only [execOp]
            go_simp
          · refine (Copy_M _ M W (HM.out W hbW) hnl40 hnb40).mono ?_
            rintro e w' ⟨u, rfl, hb2, hc⟩
            exact ⟨u, rfl, hb2, hc.low hlo, fun b hk => (hc.key (by simpa [keyM] using hk)).1⟩
        · obtain rfl : 59 = d := by simpa using hd
          have q3 : ac.tmps[3]?.getD undef = .pointer (some ⟨w.heap.size, 0, none⟩) := (eval_tmp _ _).symm.trans <| (hoff 3 (by decide)).trans rfl
          refine factK (fun _ => rfl) ?_
          refine fact_value rfl rfl rfl (v := .agg #[.slice a M.levers.length cap, .int .i64 M.water, .int .i64 M.lkLo, .int .i64 M.lkHi, .slice a2 M.bals.length cap2, .int .i64 M.wrong]) (W' := W) ?_ (Below.refl _ _) rfl
          simp only [execOp]
          go_simp
        · obtain rfl : 60 = d := by simpa using hd
          have q59 : ac.tmps[59]?.getD undef = .agg #[.slice a M.levers.length cap, .int .i64 M.water, .int .i64 M.lkLo, .int .i64 M.lkHi, .slice a2 M.bals.length cap2, .int .i64 M.wrong] := (eval_tmp _ _).symm.trans (hdep 2 59 rfl rfl)
          refine fact_callK rfl rfl rfl (f := 30) (args := #[.agg #[.slice a M.levers.length cap, .int .i64 M.water, .int .i64 M.lkLo, .int .i64 M.lkHi, .slice a2 M.bals.length cap2, .int .i64 M.wrong]]) ?_ ?_
          · simp only [execOp]
            go_simp
          · refine (Copy_M _ M W (HM.out W hbW) hnl40 hnb40).mono ?_
            rintro e w' ⟨u, rfl, hb2, hc⟩
            exact ⟨u, rfl, hb2, hc.low hlo, fun b hk => (hc.key (by simpa [keyM] using hk)).1⟩
        · obtain rfl : 11 = d := by simpa using hd
          refine fact_valueK rfl rfl rfl (v := .pointer (some ⟨W.heap.size, 0, none⟩)) (W' := W.alloc (.cells zeroM 27)) ?_ ((Below.refl _ _).alloc (Nat.le_refl _) _) ⟨W.heap.size, rfl, hlo, heap_new _ _⟩ (fun b hk => by simp [keyM, blocksM] at hk; omega)
          simp only [execOp]
          go_simp
        · obtain rfl : 12 = d := by simpa using hd
          refine fact_valueK rfl rfl rfl (v := .pointer (some ⟨W.heap.size, 0, none⟩)) (W' := W.alloc (.cells zeroM 27)) ?_ ((Below.refl _ _).alloc (Nat.le_refl _) _) ⟨W.heap.size, rfl, hlo, heap_new _ _⟩ (fun b hk => by simp [keyM, blocksM] at hk; omega)
          simp only [execOp]
          go_simp
      case rest =>
        intro vs W hvl hb hval hfar
        obtain ⟨v0, v1, v2, v3, v4, v5, rfl⟩ : ∃ v0 v1 v2 v3 v4 v5, vs = [v0, v1, v2, v3, v4, v5] := by
          match vs, hvl with
          | [v0, v1, v2, v3, v4, v5], _ => exact ⟨v0, v1, v2, v3, v4, v5, rfl⟩
        obtain ⟨z1, e1, k1⟩ := hval 1 (by omega)
        obtain ⟨z3, e3, k3⟩ := hval 3 (by omega)
        obtain ⟨z4, e4, k4⟩ := hval 4 (by omega)
        obtain ⟨z5, e5, k5⟩ := hval 5 (by omega)
        obtain rfl : v1 = z1 := by simpa using e1
        obtain rfl : v3 = z3 := by simpa using e3
        obtain rfl : v4 = z4 := by simpa using e4
        obtain rfl : v5 = z5 := by simpa using e5
        have g14 := hfar 1 4 v1 v4 (by omega) (by omega) (by omega) rfl rfl
        have g15 := hfar 1 5 v1 v5 (by omega) (by omega) (by omega) rfl rfl
        have g34 := hfar 3 4 v3 v4 (by omega) (by omega) (by omega) rfl rfl
        have g35 := hfar 3 5 v3 v5 (by omega) (by omega) (by omega) rfl rfl
        have g13 := hfar 1 3 v1 v3 (by omega) (by omega) (by omega) rfl rfl
        have g45 := hfar 4 5 v4 v5 (by omega) (by omega) (by omega) rfl rfl
        obtain ⟨B, rfl, hB, hBb⟩ := k4
        obtain ⟨U, rfl, hU, hUb⟩ := k5
        have m4 : ∀ {k : Nat} {x : Nat}, x ∈ keyM 4 (.pointer (some ⟨k, 0, none⟩)) ↔ x = k := by simp [keyM, blocksM]
        have m5 : ∀ {k : Nat} {x : Nat}, x ∈ keyM 5 (.pointer (some ⟨k, 0, none⟩)) ↔ x = k := by simp [keyM, blocksM]
        have m1 : ∀ {v : Value} {x : Nat}, x ∈ blocksM v → x ∈ keyM 1 v := fun h => by simpa [keyM] using h
        have m3 : ∀ {v : Value} {x : Nat}, x ∈ blocksM v → x ∈ keyM 3 v := fun h => by simpa [keyM] using h
        obtain ⟨lo1, lb1, lo2, lb2, rfl, rfl, ht⟩ := two_put k1 k3 ⟨hB, hBb⟩ ⟨hU, hUb⟩ (fun h => g45 B (m4.2 rfl) (m5.2 h)) (fun h => g14 B (m1 h) (m4.2 rfl)) (fun h => g15 U (m1 h) (m5.2 rfl)) (fun h => g34 B (m3 h) (m4.2 rfl)) (fun h => g35 U (m3 h) (m5.2 rfl)) (fun b h1 h2 => g13 b (m1 h1) (m3 h2))
        clear g14 g15 g34 g35 g13 g45 m4 m5 m1 m3 k1 k3 hval hfar hvl
        have hne := ht.far.2.2
        obtain ⟨la1, lc1, rfl, _⟩ := own_form ht.rows.1.1
        obtain ⟨ba1, bc1, rfl, _⟩ := own_form ht.rows.1.2
        obtain ⟨la2, lc2, rfl, _⟩ := own_form ht.rows.2.1
        obtain ⟨ba2, bc2, rfl, _⟩ := own_form ht.rows.2.2
        have HT := Lib.hid ht
        have HBR := Lib.hid (put6_below (put6_below hb hB (v0 := .slice la1 M.levers.length lc1) (v1 := .int .i64 M.water) (v2 := .int .i64 M.lkLo) (v3 := .int .i64 M.lkHi) (v4 := .slice ba1 M.bals.length bc1) (v5 := .int .i64 M.wrong)) hU (v0 := .slice la2 M.levers.length lc2) (v1 := .int .i64 M.water) (v2 := .int .i64 M.lkLo) (v3 := .int .i64 M.lkHi) (v4 := .slice ba2 M.bals.length bc2) (v5 := .int .i64 M.wrong))
        obtain ⟨x0', x1', x2', x3', x4', x5'⟩ := cells6 hBb
        obtain ⟨y0', y1', y2', y3', y4', y5'⟩ := cells6 hUb
        have xf := froz hBb
        have yf := froz hUb
        have hBW := heap_lt hBb
        have hUW := heap_lt hUb
        clear ht hb hBb hUb hB hU
        simp only [putL, Act.put, List.drop, List.setIfInBounds_toArray, List.set_cons_zero, List.set_cons_succ]
        go_upto_region 9 with fail
        obtain ⟨Y, hY⟩ : ∃ Y, Y = put6 (put6 W B (.slice la1 M.levers.length lc1) (.int .i64 M.water) (.int .i64 M.lkLo) (.int .i64 M.lkHi) (.slice ba1 M.bals.length bc1) (.int .i64 M.wrong)) U (.slice la2 M.levers.length lc2) (.int .i64 M.water) (.int .i64 M.lkLo) (.int .i64 M.lkHi) (.slice ba2 M.bals.length bc2) (.int .i64 M.wrong) := ⟨_, rfl⟩
        have hY2 := hY
        unfold put6 at hY2
        rw [← hY] at HT HBR
        rw [← hY2]
        clear hY hY2 x0' x1' x2' x3' x4' x5' y0' y1' y2' y3' y4' y5' xf yf hBW hUW
        have HS0 := Lib.hid (FairI.start HT.out)
        have hap := HT.out.apart.1
        have HAP := Lib.hid hap
        have hfar := HT.out.far
        clear hap HT
        have hlo5 : X5.heap.size ≤ Y.heap.size := HBR.out.size
        go_wp2_with fail
        go_loopw [13] (fun iv wr => ∃ k, k ≤ M.levers.length ∧ iv = .int .i64 (k : Nat) ∧ Hid (FairI X5.heap.size wr M B U (.slice la1 M.levers.length lc1) (.slice ba1 M.bals.length bc1) (.slice la2 M.levers.length lc2) (.slice ba2 M.bals.length bc2) k) ∧ Hid (Below X5.heap.size X5 wr)) (fun iv _ => M.levers.length - (intOf iv).toNat)
        case atStart => exact ⟨0, Nat.zero_le _, rfl, HS0, HBR⟩
        case round =>
          obtain ⟨k, hi, rfl, hI, hbr⟩ := hrel
          have hbr5 := HB5.out.trans (hbr.out.mono HB5.out.size)
          obtain ⟨⟨c0, c1, c2, c3, c4, c5⟩, f0, f1, f2⟩ := HC.out wr hbr5
          have HBR5 := Lib.hid hbr5
          clear hbr5
          obtain ⟨t0, t1, t2, t3, t4, t5⟩ := cells6 hI.out.vB
          by_cases hlt : k < M.levers.length
          · obtain ⟨g, rfl, hg⟩ := own_some hI.out.r1 (by omega)
            obtain ⟨bb, off, rfl, hbb, hcell⟩ := lev_read (HM.out wr HBR5.out) (by omega)
            have HY := Lib.hid (hcell k hlt)
            have hwr : w.heap.size < wr.heap.size := by have := HBR5.out.size; omega
            have HNX := Lib.hid (fun W (hb : Below wr.heap.size wr W) => (hI.out.below hb).next hlt (HAP.out g rfl))
            have HCL := Lib.hid (fun W (hb : Below wr.heap.size wr W) => (show _ ∧ _ ∧ _ from ⟨row_cells (hI.out.below hb).r1 (show M.levers.length - 1 - k < M.levers.length by omega), row_frozen (hI.out.below hb).r1, row_lt (hI.out.below hb).r1⟩))
            obtain ⟨n, hn⟩ : ∃ n, M.levers.length = n := ⟨_, rfl⟩
            rw [hn] at HNX HCL hlt hi ⊢
            have hn3 : n ≤ 3 := by have := HV.out.nl; omega
            obtain ⟨J, hJ⟩ : ∃ J, n - 1 - k = J := ⟨_, rfl⟩
            rw [hJ] at HNX HCL
            have q1 : wrap64 ((n : Int) - 1) = ((n - 1 : Nat) : Int) := by rw [wrap_in (by omega)]; omega
            have q1' : IntKind.i64.wrap ((n : Int) - 1) = ((n - 1 : Nat) : Int) := by rw [IntWalk.i64_in _ (by omega)]; omega
            have q2 : wrap64 (((n - 1 : Nat) : Int) - (k : Int)) = (J : Int) := by rw [wrap_in (by omega)]; omega
            have q2' : IntKind.i64.wrap (((n - 1 : Nat) : Int) - (k : Int)) = (J : Int) := by rw [IntWalk.i64_in _ (by omega)]; omega
            have hJn : J < n := by omega
            have HTB := Lib.hid hI.out.vB
            have HMW := Lib.hid (HC.out wr HBR5.out)
            rw [hn] at t0 c0
            have HJ := Lib.hid hJ
            clear hcell hJ
            go_upto_region 12 with fail
            refine wp_region_facts _ 14 [68, 69, 70, 71, 72, 73, 74, 75, 76, 77, 78, 79, 80, 81] [isV (.pointer (some ⟨B, 0, none⟩)), isV (.slice (some ⟨g, 0, none⟩) n lc1), isV (.pointer (some ⟨w.heap.size, 0, none⟩)), isV (.slice (some ⟨bb, off, none⟩) n cap), isV (.int .i64 (n : Nat)), isV (.int .i64 ((n - 1 : Nat) : Int)), isV (.int .i64 (k : Nat)), isV (.int .i64 (J : Nat)), isV (.pointer (some ⟨w.heap.size, 0, none⟩)), isV (.slice (some ⟨bb, off, none⟩) n cap), isV (.int .i64 (k : Nat)), isV (.pointer (some ⟨bb, off + k * 3, none⟩)), isV (lV (lnth M.levers k)), isV (.pointer (some ⟨g, J * 3, none⟩))] (by kernel_rfl) (by kernel_rfl) (by kernel_rfl) rfl (by decide) (by decide) (by simp) ?step ?rest
            case step =>
              intro i ac W d hi hd hb hoff hdep
              have t0 := (hb.cell (p := ⟨B, 0, none⟩) (heap_lt HTB.out)).trans (cells6 HTB.out).1
              have c0 := (hb.cell (p := ⟨w.heap.size, 0, none⟩) hwr).trans HMW.out.1.1
              have y0 := (hb.cell (p := ⟨bb, off + k * 3, none⟩) hbb).trans HY.out.1
              have y1 := (hb.cell (p := ⟨bb, off + k * 3 + 1, none⟩) hbb).trans HY.out.2.1
              have y2 := (hb.cell (p := ⟨bb, off + k * 3 + 2, none⟩) hbb).trans HY.out.2.2
              rw [hn] at t0 c0
              have hi2 : i = 0 ∨ i = 1 ∨ i = 2 ∨ i = 3 ∨ i = 4 ∨ i = 5 ∨ i = 6 ∨ i = 7 ∨ i = 8 ∨ i = 9 ∨ i = 10 ∨ i = 11 ∨ i = 12 ∨ i = 13 := by omega
              rcases hi2 with rfl | rfl | rfl | rfl | rfl | rfl | rfl | rfl | rfl | rfl | rfl | rfl | rfl | rfl
              · obtain rfl : 68 = d := by simpa using hd
                have q11 : ac.tmps[11]?.getD undef = .pointer (some ⟨B, 0, none⟩) := (eval_tmp _ _).symm.trans <| (hoff 11 (by decide)).trans rfl
                refine fact_value rfl rfl rfl (v := .pointer (some ⟨B, 0, none⟩)) (W' := W) ?_ (Below.refl _ _) rfl
                simp only [execOp]
                go_simp
              · obtain rfl : 69 = d := by simpa using hd
                have q68 : ac.tmps[68]?.getD undef = .pointer (some ⟨B, 0, none⟩) := (eval_tmp _ _).symm.trans (hdep 0 68 rfl rfl)
                refine fact_value rfl rfl rfl (v := .slice (some ⟨g, 0, none⟩) n lc1) (W' := W) ?_ (Below.refl _ _) rfl
                simp only [execOp]
                go_simp
              · obtain rfl : 70 = d := by simpa using hd
                have q3 : ac.tmps[3]?.getD undef = .pointer (some ⟨w.heap.size, 0, none⟩) := (eval_tmp _ _).symm.trans <| (hoff 3 (by decide)).trans rfl
                refine fact_value rfl rfl rfl (v := .pointer (some ⟨w.heap.size, 0, none⟩)) (W' := W) ?_ (Below.refl _ _) rfl
                simp only [execOp]
                go_simp
              · obtain rfl : 71 = d := by simpa using hd
                have q70 : ac.tmps[70]?.getD undef = .pointer (some ⟨w.heap.size, 0, none⟩) := (eval_tmp _ _).symm.trans (hdep 2 70 rfl rfl)
                refine fact_value rfl rfl rfl (v := .slice (some ⟨bb, off, none⟩) n cap) (W' := W) ?_ (Below.refl _ _) rfl
                simp only [execOp]
                go_simp
              · obtain rfl : 72 = d := by simpa using hd
                have q71 : ac.tmps[71]?.getD undef = .slice (some ⟨bb, off, none⟩) n cap := (eval_tmp _ _).symm.trans (hdep 3 71 rfl rfl)
                refine fact_value rfl rfl rfl (v := .int .i64 (n : Nat)) (W' := W) ?_ (Below.refl _ _) rfl
                simp only [execOp]
                go_simp
              · obtain rfl : 73 = d := by simpa using hd
                have q72 : ac.tmps[72]?.getD undef = .int .i64 (n : Nat) := (eval_tmp _ _).symm.trans (hdep 4 72 rfl rfl)
                refine fact_value rfl rfl rfl (v := .int .i64 ((n - 1 : Nat) : Int)) (W' := W) ?_ (Below.refl _ _) rfl
                simp only [execOp]
                go_simp
              · obtain rfl : 74 = d := by simpa using hd
                have q13 : ac.tmps[13]?.getD undef = .int .i64 (k : Nat) := (eval_tmp _ _).symm.trans <| (hoff 13 (by decide)).trans rfl
                refine fact_value rfl rfl rfl (v := .int .i64 (k : Nat)) (W' := W) ?_ (Below.refl _ _) rfl
                simp only [execOp]
                go_simp
              · obtain rfl : 75 = d := by simpa using hd
                have q73 : ac.tmps[73]?.getD undef = .int .i64 ((n - 1 : Nat) : Int) := (eval_tmp _ _).symm.trans (hdep 5 73 rfl rfl)
                have q74 : ac.tmps[74]?.getD undef = .int .i64 (k : Nat) := (eval_tmp _ _).symm.trans (hdep 6 74 rfl rfl)
                refine fact_value rfl rfl rfl (v := .int .i64 (J : Nat)) (W' := W) ?_ (Below.refl _ _) rfl
                simp only [execOp]
                go_simp
              · obtain rfl : 76 = d := by simpa using hd
                have q3 : ac.tmps[3]?.getD undef = .pointer (some ⟨w.heap.size, 0, none⟩) := (eval_tmp _ _).symm.trans <| (hoff 3 (by decide)).trans rfl
                refine fact_value rfl rfl rfl (v := .pointer (some ⟨w.heap.size, 0, none⟩)) (W' := W) ?_ (Below.refl _ _) rfl
                simp only [execOp]
                go_simp
              · obtain rfl : 77 = d := by simpa using hd
                have q76 : ac.tmps[76]?.getD undef = .pointer (some ⟨w.heap.size, 0, none⟩) := (eval_tmp _ _).symm.trans (hdep 8 76 rfl rfl)
                refine fact_value rfl rfl rfl (v := .slice (some ⟨bb, off, none⟩) n cap) (W' := W) ?_ (Below.refl _ _) rfl
                simp only [execOp]
                go_simp
              · obtain rfl : 78 = d := by simpa using hd
                have q13 : ac.tmps[13]?.getD undef = .int .i64 (k : Nat) := (eval_tmp _ _).symm.trans <| (hoff 13 (by decide)).trans rfl
                refine fact_value rfl rfl rfl (v := .int .i64 (k : Nat)) (W' := W) ?_ (Below.refl _ _) rfl
                simp only [execOp]
                go_simp
              · obtain rfl : 79 = d := by simpa using hd
                have q77 : ac.tmps[77]?.getD undef = .slice (some ⟨bb, off, none⟩) n cap := (eval_tmp _ _).symm.trans (hdep 9 77 rfl rfl)
                have q78 : ac.tmps[78]?.getD undef = .int .i64 (k : Nat) := (eval_tmp _ _).symm.trans (hdep 10 78 rfl rfl)
                refine fact_value rfl rfl rfl (v := .pointer (some ⟨bb, off + k * 3, none⟩)) (W' := W) ?_ (Below.refl _ _) rfl
                simp only [execOp]
                go_simp
              · obtain rfl : 80 = d := by simpa using hd
                have q79 : ac.tmps[79]?.getD undef = .pointer (some ⟨bb, off + k * 3, none⟩) := (eval_tmp _ _).symm.trans (hdep 11 79 rfl rfl)
                refine fact_value rfl rfl rfl (v := lV (lnth M.levers k)) (W' := W) ?_ (Below.refl _ _) rfl
                simp only [execOp]
                go_simp
              · obtain rfl : 81 = d := by simpa using hd
                have q69 : ac.tmps[69]?.getD undef = .slice (some ⟨g, 0, none⟩) n lc1 := (eval_tmp _ _).symm.trans (hdep 1 69 rfl rfl)
                have q75 : ac.tmps[75]?.getD undef = .int .i64 (J : Nat) := (eval_tmp _ _).symm.trans (hdep 7 75 rfl rfl)
                refine fact_value rfl rfl rfl (v := .pointer (some ⟨g, J * 3, none⟩)) (W' := W) ?_ (Below.refl _ _) rfl
                simp only [execOp]
                go_simp
            case rest =>
              intro vs W hvl hb hval
              obtain ⟨v0, v1, v2, v3, v4, v5, v6, v7, v8, v9, v10, v11, v12, v13, rfl⟩ : ∃ v0 v1 v2 v3 v4 v5 v6 v7 v8 v9 v10 v11 v12 v13, vs = [v0, v1, v2, v3, v4, v5, v6, v7, v8, v9, v10, v11, v12, v13] := by
                match vs, hvl with
                | [v0, v1, v2, v3, v4, v5, v6, v7, v8, v9, v10, v11, v12, v13], _ => exact ⟨v0, v1, v2, v3, v4, v5, v6, v7, v8, v9, v10, v11, v12, v13, rfl⟩
              obtain rfl : v0 = .pointer (some ⟨B, 0, none⟩) := by obtain ⟨u, e, h⟩ := hval 0 (by omega); have e2 : some v0 = some u := e; injection e2 with e2; subst e2; exact h
              obtain rfl : v1 = .slice (some ⟨g, 0, none⟩) n lc1 := by obtain ⟨u, e, h⟩ := hval 1 (by omega); have e2 : some v1 = some u := e; injection e2 with e2; subst e2; exact h
              obtain rfl : v2 = .pointer (some ⟨w.heap.size, 0, none⟩) := by obtain ⟨u, e, h⟩ := hval 2 (by omega); have e2 : some v2 = some u := e; injection e2 with e2; subst e2; exact h
              obtain rfl : v3 = .slice (some ⟨bb, off, none⟩) n cap := by obtain ⟨u, e, h⟩ := hval 3 (by omega); have e2 : some v3 = some u := e; injection e2 with e2; subst e2; exact h
              obtain rfl : v4 = .int .i64 (n : Nat) := by obtain ⟨u, e, h⟩ := hval 4 (by omega); have e2 : some v4 = some u := e; injection e2 with e2; subst e2; exact h
              obtain rfl : v5 = .int .i64 ((n - 1 : Nat) : Int) := by obtain ⟨u, e, h⟩ := hval 5 (by omega); have e2 : some v5 = some u := e; injection e2 with e2; subst e2; exact h
              obtain rfl : v6 = .int .i64 (k : Nat) := by obtain ⟨u, e, h⟩ := hval 6 (by omega); have e2 : some v6 = some u := e; injection e2 with e2; subst e2; exact h
              obtain rfl : v7 = .int .i64 (J : Nat) := by obtain ⟨u, e, h⟩ := hval 7 (by omega); have e2 : some v7 = some u := e; injection e2 with e2; subst e2; exact h
              obtain rfl : v8 = .pointer (some ⟨w.heap.size, 0, none⟩) := by obtain ⟨u, e, h⟩ := hval 8 (by omega); have e2 : some v8 = some u := e; injection e2 with e2; subst e2; exact h
              obtain rfl : v9 = .slice (some ⟨bb, off, none⟩) n cap := by obtain ⟨u, e, h⟩ := hval 9 (by omega); have e2 : some v9 = some u := e; injection e2 with e2; subst e2; exact h
              obtain rfl : v10 = .int .i64 (k : Nat) := by obtain ⟨u, e, h⟩ := hval 10 (by omega); have e2 : some v10 = some u := e; injection e2 with e2; subst e2; exact h
              obtain rfl : v11 = .pointer (some ⟨bb, off + k * 3, none⟩) := by obtain ⟨u, e, h⟩ := hval 11 (by omega); have e2 : some v11 = some u := e; injection e2 with e2; subst e2; exact h
              obtain rfl : v12 = lV (lnth M.levers k) := by obtain ⟨u, e, h⟩ := hval 12 (by omega); have e2 : some v12 = some u := e; injection e2 with e2; subst e2; exact h
              obtain rfl : v13 = .pointer (some ⟨g, J * 3, none⟩) := by obtain ⟨u, e, h⟩ := hval 13 (by omega); have e2 : some v13 = some u := e; injection e2 with e2; subst e2; exact h
              clear hval hvl
              simp only [putL, Act.put, List.drop, List.setIfInBounds_toArray, List.set_cons_zero, List.set_cons_succ]
              obtain ⟨⟨⟨p0, hp0⟩, ⟨p1, hp1⟩, p2, hp2⟩, pf, hgw⟩ := HCL.out W hb
              have hnx := Lib.hid (HNX.out W hb)
              have HBW := Lib.hid (hbr.out.trans (hb.mono hbr.out.size))
              have xf := pf (J * 3)
              have xf1 := pf (J * 3 + 1)
              have xf2 := pf (J * 3 + 2)
              clear hb HNX HCL pf q1 q1' q2 q2' t0 t1 t2 t3 t4 t5 c0 c1 c2 c3 c4 c5 f0 f1 f2
              go_wp2_with fail
              exact ⟨⟨k + 1, by omega, by go_num, hnx, Lib.hid (below_setCell (below_setCell (below_setCell HBW.out hg) hg) hg)⟩, by simp [intOf]; omega⟩
          · obtain rfl : k = M.levers.length := by omega
            have hkf : ¬ ((M.levers.length : Nat) : Int) < ((M.levers.length : Nat) : Int) := by omega
            obtain ⟨u0, u1, u2, u3, u4, u5⟩ := cells6 hI.out.vU
            have uf := froz hI.out.vU
            have hBl := heap_lt hI.out.vB
            have hUl := heap_lt hI.out.vU
            obtain ⟨iB, hiB, hzB0, hzB1, hzB2⟩ := info_parts Try_infoLev
            have HR3 := Lib.hid hI.out.r3
            have hsr := hbr.out.size
            clear hlt
            have hUo : ∀ b, (Value.slice la2 M.levers.length lc2).ownBlock = some b → b ≠ U ∧ b ≠ B := fun b hb => by
              have hcs : ∃ cs, wr.heap[b]? = some (.cells cs 63) := by
                obtain ⟨_, ⟨hv, _⟩ | ⟨g', cap', cur, hv, _, hh, _⟩⟩ := HR3.out
                · rw [hv] at hb; cases hb
                · rw [hv] at hb
                  have : g' = b := by simpa [Value.ownBlock] using hb
                  subst this
                  exact ⟨cur, hh⟩
              obtain ⟨cs, hh⟩ := hcs
              refine ⟨?_, ?_⟩
              · rintro rfl; rw [hI.out.vU] at hh; injection hh with hh; injection hh with _ ht; exact absurd ht (by decide)
              · rintro rfl; rw [hI.out.vB] at hh; injection hh with hh; injection hh with _ ht; exact absurd ht (by decide)
            have HUO := Lib.hid hUo
            clear hUo
            go_upto_region 13 with fail
            go_upto_region 14 with (at_builtin; refine wpList_onto (base := X5.heap.size) (v := .slice la2 M.levers.length lc2) (n := M.levers.length) (xs := lcells M.levers) (A := some ⟨wr.heap.size, 0, none⟩) (m := 1) (c := 1) (news := [.int .i64 arm, .int .i64 arm, .int .i64 arm]) rfl (.tmp 83) (.tmp 89) rfl Try.underlying22 hiB hzB0 hzB1 hzB2 rfl (by decide) rfl (HR3.out.alloc _) rfl (three_new _ _ _ _ _) (by simp [Value.oneCell']) (by unfold maxLen; omega) (by omega) (by simp; omega) ?_
                                    intro A5 c5' w5 hown5 hgrow5 hat5
                                    have HOWN5 := Lib.hid hown5
                                    have hk5 : ∀ b, b < wr.heap.size → (Value.slice la2 M.levers.length lc2).ownBlock ≠ some b → w5.heap[b]? = wr.heap[b]? := fun b h1 h2 => (grown_kept hgrow5).block b h1 h2
                                    have HK5 := Lib.hid hk5
                                    have HR1' := Lib.hid (row_far hI.out.r1 (fun g hg => hk5 g (hI.out.r1.lt g hg).2 (HAP.out g hg)))
                                    have HR2' := Lib.hid (own_kept_type (hI.out.r2.alloc _) (HR3.out.alloc _) (by decide) hgrow5)
                                    have HR4' := Lib.hid (own_kept_type (hI.out.r4.alloc _) (HR3.out.alloc _) (by decide) hgrow5)
                                    have HVB5 := Lib.hid ((hk5 B hBl (fun h => (HUO.out B h).2 rfl)).trans hI.out.vB)
                                    have HB55 := Lib.hid (hbr.out.trans ((grown_kept hgrow5).below hsr (fun k hk => (HR3.out.lt k hk).1)))
                                    have hU5 := (hk5 U hUl (fun h => (HUO.out U h).1 rfl)).trans hI.out.vU
                                    obtain ⟨u50, u51, u52, u53, u54, u55⟩ := cells6 hU5
                                    have uf5 := froz hU5
                                    have HU5 := Lib.hid hU5
                                    clear hown5 hgrow5 hat5 hk5 hU5)
            obtain ⟨Z, hZ⟩ : ∃ Z, Z = w5.setCell ⟨U, 0, none⟩ (.slice A5 (M.levers.length + 1) c5') := ⟨_, rfl⟩
            have hZU : Z.heap[U]? = some (.cells #[.slice A5 (M.levers.length + 1) c5', .int .i64 M.water, .int .i64 M.lkLo, .int .i64 M.lkHi, .slice ba2 M.bals.length bc2, .int .i64 M.wrong] 27) := by rw [hZ]; exact heap_setCell_same HU5.out
            have hZB : Z.heap[B]? = some (.cells #[.slice la1 M.levers.length lc1, .int .i64 M.water, .int .i64 M.lkLo, .int .i64 M.lkHi, .slice ba1 M.bals.length bc1, .int .i64 M.wrong] 27) := by rw [hZ]; exact (heap_setCell_other (Ne.symm hne)).trans HVB5.out
            have hZ1 : Z.ownsRow X5.heap.size 63 3 (.slice la1 M.levers.length lc1) M.levers.length (lcells (revTo M.levers M.levers.length)) := by rw [hZ]; exact own_setOther HR1'.out HU5.out (by decide)
            have hZ2 : Z.ownsRow X5.heap.size 51 4 (.slice ba1 M.bals.length bc1) M.bals.length (bcells M.bals) := by rw [hZ]; exact own_setOther HR2'.out HU5.out (by decide)
            have hZ3 : Z.ownsRow X5.heap.size 63 3 (.slice A5 (M.levers.length + 1) c5') (M.levers.length + 1) (lcells M.levers ++ [.int .i64 arm, .int .i64 arm, .int .i64 arm]) := by rw [hZ]; exact own_setOther HOWN5.out HU5.out (by decide)
            have hZ4 : Z.ownsRow X5.heap.size 51 4 (.slice ba2 M.bals.length bc2) M.bals.length (bcells M.bals) := by rw [hZ]; exact own_setOther HR4'.out HU5.out (by decide)
            have hZb : Below X5.heap.size X5 Z := by rw [hZ]; exact below_setCell HB55.out hfar.2.1
            rw [← hZ]
            have HZB := Lib.hid (HB5.out.trans (hZb.mono HB5.out.size))
            have HOM := Lib.hid (rev_at HV.out hZ1 hZ2)
            have HPM := Lib.hid (fair_at HV.out (arm := arm) (by omega) hZ3 hZ4)
            have HCZ := Lib.hid (fun X (hX : Below Z.heap.size Z X) => (show _ ∧ _ ∧ _ from ⟨HC.out X (HZB.out.trans (hX.mono HZB.out.size)), cells6 ((hX.block B (heap_lt hZB)).trans hZB), cells6 ((hX.block U (heap_lt hZU)).trans hZU)⟩))
            have HMZ := Lib.hid (fun X (hX : Below Z.heap.size Z X) => HM.out X (HZB.out.trans (hX.mono HZB.out.size)))
            have HWZ := Lib.hid (fun X (hX : Below Z.heap.size Z X) => HWK.out X (HZB.out.trans (hX.mono HZB.out.size)))
            clear hZ hZU hZB hZ1 hZ2 hZ3 hZ4 hZb c0 c1 c2 c3 c4 c5 f0 f1 f2 u0 u1 u2 u3 u4 u5 uf t0 t1 t2 t3 t4 t5 u50 u51 u52 u53 u54 u55 uf5 HR1' HR2' HR4' HOWN5 HVB5 HB55 HK5 HU5 HR3 HUO HBR5 hI hbr
            obtain ⟨⟨⟨c0, c1, c2, c3, c4, c5⟩, f0, f1, f2⟩, ⟨t0, t1, t2, t3, t4, t5⟩, u0, u1, u2, u3, u4, u5⟩ := HCZ.out Z (Below.refl _ _)
            go_wp2_with fail
            refine (alikeL_any 1 _ _ M { M with levers := M.levers.reverse } x0 x1 x2 Z (HMZ.out Z (Below.refl _ _)) HOM.out HVB.out (validM_iff.2 (rev_valid HV.out)) hx0 hx1 hx2 (like_perm (List.reverse_perm _))).mono ?_
            rintro e z1 ⟨rfl, hb⟩
            have HZ1 := Lib.hid hb
            clear c0 c1 c2 c3 c4 c5 f0 f1 f2 t0 t1 t2 t3 t4 t5 u0 u1 u2 u3 u4 u5
            obtain ⟨⟨⟨c0, c1, c2, c3, c4, c5⟩, f0, f1, f2⟩, ⟨t0, t1, t2, t3, t4, t5⟩, u0, u1, u2, u3, u4, u5⟩ := HCZ.out z1 hb
            clear hb
            go_wp2_with fail
            refine (ready_any _ (fairM M arm) z1 ((HPM.out.below HZ1.out).mono HZ1.out.size)).mono ?_
            rintro e z2 ⟨⟨r, rfl, hr⟩, hb⟩
            have HZ2 := Lib.hid (HZ1.out.trans (hb.mono HZ1.out.size))
            clear hb c0 c1 c2 c3 c4 c5 f0 f1 f2 t0 t1 t2 t3 t4 t5 u0 u1 u2 u3 u4 u5
            obtain ⟨⟨⟨c0, c1, c2, c3, c4, c5⟩, f0, f1, f2⟩, ⟨t0, t1, t2, t3, t4, t5⟩, u0, u1, u2, u3, u4, u5⟩ := HCZ.out z2 HZ2.out
            cases r with
            | false =>
              go_wp2_with (go_at_call 14; refine (HWZ.out z2 HZ2.out).mono ?_; rintro e wz ⟨rfl, hbz⟩; have HBZ := Lib.hid hbz; clear hbz)
              go_ret
              exact ⟨rfl, HBZ.out⟩
            | true =>
              have hvp := hr rfl
              have HVP := Lib.hid hvp
              clear hr hvp
              go_wp2_with fail
              refine (alikeL_any arm _ _ M (fairM M arm) x0 x1 x2 z2 (HMZ.out z2 HZ2.out) ((HPM.out.below HZ2.out).mono HZ2.out.size) HVB.out HVP.out hx0 hx1 hx2 (like_fair (by omega))).mono ?_
              rintro e z3 ⟨rfl, hb⟩
              have HZ3 := Lib.hid (HZ2.out.trans (hb.mono HZ2.out.size))
              clear hb
              go_wp2_with (go_at_call 14; refine (HWZ.out z3 HZ3.out).mono ?_; rintro e wz ⟨rfl, hbz⟩; have HBZ := Lib.hid hbz; clear hbz)
              go_ret
              exact ⟨rfl, HBZ.out⟩
end Go.Proofs.Ytomcjopcfdllgaa
