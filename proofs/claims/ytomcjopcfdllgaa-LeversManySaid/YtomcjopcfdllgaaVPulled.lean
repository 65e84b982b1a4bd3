/-
  Levers, walks: whether a load is surely pulled.
-/
import Derived.Test.YtomcjopcfdllgaaVShorts
import Derived.Test.YtomcjopcfdllgaaVWork
import Derived.Test.YtomcjopcfdllgaaVWeight

namespace Go.Proofs.Ytomcjopcfdllgaa
open Go.RowKit Go.Shelf

/-- In how many truths the load is at least some load. -/
def pulledN (M : Mach) (weight minutes load : Int) : Nat := ((truthsM M).filter (fun s => pullsB M weight minutes load s.2 (prodL s.1))).length
/-- What is known of something that is so in some of many cases. -/
def knownI (some many : Nat) : Int := if some = many then 1 else if some = 0 then 2 else 3
def pulledA (M : Mach) (weight minutes load : Int) : Int × Int := if truthsM M = [] then (0, 3) else (knownI (pulledN M weight minutes load) (truthsM M).length, 0)
def pullQ (M : Mach) (weight minutes load : Int) : Ask4 := fun a b c d => if pullsB M weight minutes load d (a * b * c) = true then 1 else 2
theorem gxy_prod {M : Mach} (hV : ValidM M) {lev : Nat} (hl : lev < 3) {g : Grp} (hg : g ∈ grpL M lev) : gx M lev g 0 * gx M lev g 1 * gx M lev g 2 = g.lo M lev ∧ gy M lev g 0 * gy M lev g 1 * gy M lev g 2 = g.hi M lev := by
  obtain ⟨x0, x1, x2, y0, y1, y2, hgc, _, _, h1, h2, _, _⟩ := grp_form hV hl hg
  rw [grpC_is] at hgc
  simp only [nine, Array.mk.injEq, List.cons.injEq, Value.int.injEq, true_and, and_true] at hgc
  obtain ⟨e0, e1, e2, e3, e4, e5⟩ := hgc
  rw [e0, e1, e2, e3, e4, e5]
  exact ⟨h1, h2⟩
theorem pulled_mem {M : Mach} (hV : ValidM M) {weight minutes load : Int} (hload : 0 ≤ load) (x : Int) : x ∈ asksG (pullQ M weight minutes load) M 0 (grpT M 0) ↔ (x = 1 ∧ ∃ s ∈ truthsM M, pullsB M weight minutes load s.2 (prodL s.1) = true) ∨ (x = 2 ∧ ∃ s ∈ truthsM M, pullsB M weight minutes load s.2 (prodL s.1) = false) := by
  rw [pulls_ends hV (lev := 0) (by decide) hload true, pulls_ends hV (lev := 0) (by decide) hload false]
  simp only [asksG, List.mem_flatMap, fG, List.mem_cons, List.not_mem_nil, or_false]
  have key : ∀ g ∈ grpT M 0, pullQ M weight minutes load (gx M 0 g 0) (gx M 0 g 1) (gx M 0 g 2) g.leak = (if pullsB M weight minutes load g.leak (g.lo M 0) = true then 1 else 2) ∧ pullQ M weight minutes load (gy M 0 g 0) (gy M 0 g 1) (gy M 0 g 2) g.leak = (if pullsB M weight minutes load g.leak (g.hi M 0) = true then 1 else 2) := fun g hg => by
    obtain ⟨h1, h2⟩ := gxy_prod hV (lev := 0) (by decide) (List.mem_filter.1 hg).1
    unfold pullQ
    rw [h1, h2]
    exact ⟨rfl, rfl⟩
  constructor
  · rintro ⟨g, hg, h⟩
    obtain ⟨k1, k2⟩ := key g hg
    rw [k1, k2] at h
    rcases h with h | h
    · cases hp : pullsB M weight minutes load g.leak (g.lo M 0) with
      | true => rw [hp] at h; exact .inl ⟨h, g, hg, .inl hp⟩
      | false => rw [hp] at h; exact .inr ⟨h, g, hg, .inl hp⟩
    · cases hp : pullsB M weight minutes load g.leak (g.hi M 0) with
      | true => rw [hp] at h; exact .inl ⟨h, g, hg, .inr hp⟩
      | false => rw [hp] at h; exact .inr ⟨h, g, hg, .inr hp⟩
  · rintro (⟨rfl, g, hg, h⟩ | ⟨rfl, g, hg, h⟩)
    all_goals
      obtain ⟨k1, k2⟩ := key g hg
      refine ⟨g, hg, ?_⟩
      rw [k1, k2]
      rcases h with h | h
      · left; rw [h]; rfl
      · right; rw [h]; rfl
/-- The list of answers is one or both of them. -/
theorem pulled_list {M : Mach} (hV : ValidM M) {weight minutes load : Int} (hload : 0 ≤ load) (hne : truthsM M ≠ []) {L : List Int} (hL : AnsOf (asksG (pullQ M weight minutes load) M 0 (grpT M 0)) L) :
    L = [knownI (pulledN M weight minutes load) (truthsM M).length] ∨ (L = [1, 2] ∧ knownI (pulledN M weight minutes load) (truthsM M).length = 3) := by
  have hm := fun x => pulled_mem hV (weight := weight) (minutes := minutes) hload x
  obtain ⟨s0, hs0⟩ := List.exists_mem_of_ne_nil _ hne
  unfold knownI pulledN
  by_cases h1 : ((truthsM M).filter (fun s => pullsB M weight minutes load s.2 (prodL s.1))).length = (truthsM M).length
  · rw [if_pos h1]
    have hall := List.length_filter_eq_length_iff.1 h1
    left
    refine ansOf_one hL ⟨by simp, fun x => ?_⟩
    rw [hm]
    constructor
    · intro hx
      exact .inl ⟨by simpa using hx, s0, hs0, hall s0 hs0⟩
    · rintro (⟨rfl, _⟩ | ⟨_, s, hs, h⟩)
      · simp
      · have h3 : pullsB M weight minutes load s.2 (prodL s.1) = true := hall s hs
        rw [h] at h3
        cases h3
  · rw [if_neg h1]
    have hno : ∃ s ∈ truthsM M, pullsB M weight minutes load s.2 (prodL s.1) = false := Classical.byContradiction fun hc => h1 (List.length_filter_eq_length_iff.2 fun s hs => by
      cases hp : pullsB M weight minutes load s.2 (prodL s.1) with
      | true => rfl
      | false => exact absurd ⟨s, hs, hp⟩ hc)
    by_cases h2 : ((truthsM M).filter (fun s => pullsB M weight minutes load s.2 (prodL s.1))).length = 0
    · rw [if_pos h2]
      have hnil := List.filter_eq_nil_iff.1 (List.length_eq_zero_iff.1 h2)
      left
      refine ansOf_one hL ⟨by simp, fun x => ?_⟩
      rw [hm]
      constructor
      · intro hx
        exact .inr ⟨by simpa using hx, hno⟩
      · rintro (⟨_, s, hs, h⟩ | ⟨rfl, _⟩)
        · exact absurd h (hnil s hs)
        · simp
    · rw [if_neg h2]
      right
      refine ⟨ansOf_one hL ⟨by simp, fun x => ?_⟩, rfl⟩
      rw [hm]
      have hyes : ∃ s ∈ truthsM M, pullsB M weight minutes load s.2 (prodL s.1) = true := by
        obtain ⟨s, hs⟩ := List.exists_mem_of_ne_nil ((truthsM M).filter (fun s => pullsB M weight minutes load s.2 (prodL s.1))) (fun h => h2 (by rw [h]; rfl))
        obtain ⟨h3, h4⟩ := List.mem_filter.1 hs
        exact ⟨s, h3, h4⟩
      constructor
      · intro hx
        simp only [List.mem_cons, List.not_mem_nil, or_false] at hx
        rcases hx with rfl | rfl
        · exact .inl ⟨rfl, hyes⟩
        · exact .inr ⟨rfl, hno⟩
      · rintro (⟨rfl, _⟩ | ⟨rfl, _⟩) <;> simp

set_option maxRecDepth 100000 in
set_option maxHeartbeats 2000000 in
theorem pulled1_any (M : Mach) (hV : ValidM M) (pb bw b1 b2 b3 : Nat) (a0 a1 a2 leak weight minutes load : Int) (W : World) (hpb : pb < W.heap.size) (hw : 0 ≤ weight ∧ weight ≤ 9999) (hm : 0 ≤ minutes ∧ minutes ≤ 99) (hld : 0 ≤ load ∧ load ≤ 999999999) (hl : 0 ≤ leak ∧ leak ≤ 20) (h0 : 1 ≤ a0 ∧ a0 ≤ 1000) (h1 : 1 ≤ a1 ∧ a1 ≤ 1000) (h2 : 1 ≤ a2 ∧ a2 ≤ 1000)
    (c1 : W.cell? ⟨pb, 1, none⟩ = some (.int .i64 M.water)) (c12 : W.cell? ⟨pb, 12, none⟩ = some (.int .i64 (longP M.levers)))
    (hbw : bw < W.heap.size) (hb1 : b1 < W.heap.size) (hb2 : b2 < W.heap.size) (hb3 : b3 < W.heap.size)
    (cw : W.cell? ⟨bw, 0, none⟩ = some (.pointer (some ⟨pb, 0, none⟩))) (d1 : W.cell? ⟨b1, 0, none⟩ = some (.int .i64 weight)) (d2 : W.cell? ⟨b2, 0, none⟩ = some (.int .i64 minutes)) (d3 : W.cell? ⟨b3, 0, none⟩ = some (.int .i64 load)) :
    Calls Try.prog 64 (#[.agg #[.int .i64 a0, .int .i64 a1, .int .i64 a2, .int .i64 leak]] ++ #[.pointer (some ⟨bw, 0, none⟩), .pointer (some ⟨b1, 0, none⟩), .pointer (some ⟨b2, 0, none⟩), .pointer (some ⟨b3, 0, none⟩)]) W fun e w' => e = .returned (.int .i64 (pullQ M weight minutes load a0 a1 a2 leak)) ∧ Below W.heap.size W w' := by
  obtain ⟨o, ho⟩ : ∃ o : Obj, o = .cells #[.int .i64 a0, .int .i64 a1, .int .i64 a2, .int .i64 leak] 83 := ⟨_, rfl⟩
  have k1 := (World.cell?_of_block (w := W) (a := ⟨pb, 1, none⟩) (Below.heap_alloc W o pb hpb)).trans c1
  have k12 := (World.cell?_of_block (w := W) (a := ⟨pb, 12, none⟩) (Below.heap_alloc W o pb hpb)).trans c12
  have kw := (World.cell?_of_block (w := W) (a := ⟨bw, 0, none⟩) (Below.heap_alloc W o bw hbw)).trans cw
  have e1 := (World.cell?_of_block (w := W) (a := ⟨b1, 0, none⟩) (Below.heap_alloc W o b1 hb1)).trans d1
  have e2 := (World.cell?_of_block (w := W) (a := ⟨b2, 0, none⟩) (Below.heap_alloc W o b2 hb2)).trans d2
  have e3 := (World.cell?_of_block (w := W) (a := ⟨b3, 0, none⟩) (Below.heap_alloc W o b3 hb3)).trans d3
  have HPU := Lib.hid (pulls_any M hV pb a0 a1 a2 leak weight minutes load (W.alloc o) (by simp; omega) hw hm hld hl h0 h1 h2 k1 k12)
  subst ho
  have hq : pullQ M weight minutes load a0 a1 a2 leak = if pullsB M weight minutes load leak (a0 * a1 * a2) = true then 1 else 2 := rfl
  obtain ⟨pq, hpq⟩ : ∃ pq, pullsB M weight minutes load leak (a0 * a1 * a2) = pq := ⟨_, rfl⟩
  rw [hpq] at HPU hq
  have HQ := Lib.hid hq
  clear hq hpq c1 c12 cw d1 d2 d3 k1 k12
  show Calls Try.prog 64 #[.agg #[.int .i64 a0, .int .i64 a1, .int .i64 a2, .int .i64 leak], .pointer (some ⟨bw, 0, none⟩), .pointer (some ⟨b1, 0, none⟩), .pointer (some ⟨b2, 0, none⟩), .pointer (some ⟨b3, 0, none⟩)] W _
  cases pq with
  | true =>
    go_enter Try.func64, Try.ntmps64
    go_wp2_with (go_at_call 65; refine HPU.out.mono ?_; rintro e w4 ⟨rfl, hb4⟩; have HB4 := Lib.hid ((show Below W.heap.size W _ by go_grown).trans (hb4.mono (by simp))); clear hb4)
    go_ret
    exact ⟨by rw [HQ.out]; rfl, HB4.out⟩
  | false =>
    go_enter Try.func64, Try.ntmps64
    go_wp2_with (go_at_call 65; refine HPU.out.mono ?_; rintro e w4 ⟨rfl, hb4⟩; have HB4 := Lib.hid ((show Below W.heap.size W _ by go_grown).trans (hb4.mono (by simp))); clear hb4)
    go_ret
    exact ⟨by rw [HQ.out]; rfl, HB4.out⟩

set_option maxRecDepth 100000 in
set_option maxHeartbeats 4000000 in
theorem Pulled_any (v : Value) (M : Mach) (weight minutes load : Int) (w : World) (hx : MachAt w.heap.size w v M) (hV : validMB M = true) (ha : askB weight minutes load 0 = true) :
    Calls Try.prog 19 #[v, .int .i64 weight, .int .i64 minutes, .int .i64 load] w fun e w' => e = .returned (.tuple #[.int .i64 (pulledA M weight minutes load).1, .int .i64 (pulledA M weight minutes load).2]) ∧ Below w.heap.size w w' := by
  have hwt := (askB_iff.1 ha).1
  have hmn := (askB_iff.1 ha).2.1
  have hld := (askB_iff.1 ha).2.2.1
  have HX := Lib.hid (fun W (hb : Below w.heap.size w W) => (hx.below hb).mono hb.size)
  obtain ⟨a, cap, a2, cap2, rfl⟩ := hx.form
  have HVV := Lib.hid (validM_iff.1 hV)
  have HOP := Lib.hid (fun (W : World) (hW : Below w.heap.size w W) => open_ok _ M weight minutes load W (HX.out W hW) hV ha)
  obtain ⟨PA, hPA⟩ : ∃ PA, pulledA M weight minutes load = PA := ⟨_, rfl⟩
  rw [hPA]
  have HPA := Lib.hid hPA
  clear hx hV hPA ha
  go_enter Try.func19, Try.ntmps19
  go_wp2_with fail
  obtain ⟨wy, hwy⟩ : ∃ wy, wy = ((w.alloc (.cells #[.slice a M.levers.length cap, .int .i64 M.water, .int .i64 M.lkLo, .int .i64 M.lkHi, .slice a2 M.bals.length cap2, .int .i64 M.wrong] 27)).alloc (.cells #[.int .i64 weight] 3)).alloc (.cells #[.int .i64 minutes] 3) := ⟨_, rfl⟩
  have hszy : wy.heap.size = w.heap.size + 3 := by rw [hwy]; simp
  have hby : Below w.heap.size w wy := by rw [hwy]; exact (((Below.refl _ w).alloc (Nat.le_refl _) _).alloc (by simp) _).alloc (by simp; omega) _
  have hy1 : wy.heap[w.heap.size + 1]? = some (.cells #[.int .i64 weight] 3) := by rw [hwy]; exact (Below.heap_alloc _ _ _ (by simp)).trans (heap_new1 _ _ _)
  have hy2 : wy.heap[w.heap.size + 2]? = some (.cells #[.int .i64 minutes] 3) := by
    rw [hwy]
    have := World.alloc_heap_new ((w.alloc (.cells #[.slice a M.levers.length cap, .int .i64 M.water, .int .i64 M.lkLo, .int .i64 M.lkHi, .slice a2 M.bals.length cap2, .int .i64 M.wrong] 27)).alloc (.cells #[.int .i64 weight] 3)) (.cells #[.int .i64 minutes] 3)
    simpa using this
  rw [← hwy]
  clear hwy
  obtain ⟨wz, hwz⟩ : ∃ wz, wz = wy.alloc (.cells #[.int .i64 load] 3) := ⟨_, rfl⟩
  have hsz0 : wz.heap.size = w.heap.size + 4 := by rw [hwz]; simp; omega
  have hbz : Below w.heap.size w wz := by rw [hwz]; exact hby.alloc (by omega) _
  have hz1 : wz.heap[w.heap.size + 1]? = some (.cells #[.int .i64 weight] 3) := by rw [hwz]; exact (Below.heap_alloc _ _ _ (by omega)).trans hy1
  have hz2 : wz.heap[w.heap.size + 2]? = some (.cells #[.int .i64 minutes] 3) := by rw [hwz]; exact (Below.heap_alloc _ _ _ (by omega)).trans hy2
  have hz3 : wz.heap[w.heap.size + 3]? = some (.cells #[.int .i64 load] 3) := by rw [hwz, ← hszy]; exact heap_new _ _
  rw [← hwz]
  clear hwz hy1 hy2 hby hszy
  refine (HOP.out _ hbz).mono ?_
  rintro e w1 ⟨pb, rfl, hwk, hb1⟩
  have hsz := hb1.size
  have HBW := Lib.hid (hbz.trans (hb1.mono hbz.size))
  have HM1 := Lib.hid ((hb1.block (w.heap.size + 1) (by omega)).trans hz1)
  have HM2 := Lib.hid ((hb1.block (w.heap.size + 2) (by omega)).trans hz2)
  have HM3 := Lib.hid ((hb1.block (w.heap.size + 3) (by omega)).trans hz3)
  have HWK := Lib.hid hwk
  clear hb1 hwk hbz hz1 hz2 hz3
  go_wp2_with fail
  obtain ⟨w2, hw2⟩ : ∃ w2, w2 = w1.alloc (.cells #[.pointer (some ⟨pb, 0, none⟩)] 77) := ⟨_, rfl⟩
  have hs2 : w2.heap.size = w1.heap.size + 1 := by rw [hw2]; simp
  have hb2 : Below w1.heap.size w1 w2 := by rw [hw2]; exact (Below.refl _ w1).alloc (Nat.le_refl _) _
  have hp2 : w2.heap[w1.heap.size]? = some (.cells #[.pointer (some ⟨pb, 0, none⟩)] 77) := by rw [hw2]; exact heap_new _ _
  rw [← hw2]
  clear hw2
  have hwk2 := (HWK.out.below hb2).mono hb2.size
  have HB2 := Lib.hid (HBW.out.trans (hb2.mono HBW.out.size))
  have n1 := (hb2.block (w.heap.size + 1) (by omega)).trans HM1.out
  have n2 := (hb2.block (w.heap.size + 2) (by omega)).trans HM2.out
  have n3 := (hb2.block (w.heap.size + 3) (by omega)).trans HM3.out
  obtain ⟨t1, t12, _⟩ := hwk2.three
  have hpb := hwk2.1
  have HAN := Lib.hid (answers_any M HVV.out 0 (by decide) pb 64 #[.pointer (some ⟨w1.heap.size, 0, none⟩), .pointer (some ⟨w.heap.size + 1, 0, none⟩), .pointer (some ⟨w.heap.size + 2, 0, none⟩), .pointer (some ⟨w.heap.size + 3, 0, none⟩)] (pullQ M weight minutes load) (fun a b c d _ _ _ _ => by unfold pullQ I64; split <;> omega) w2 hwk2 (enters_of Try.func64 (by kernel_rfl) rfl)
    (fun a b c d W q0 q1 q2 q3 hW => by
      have hWs := hW.size
      exact pulled1_any M HVV.out pb w1.heap.size (w.heap.size + 1) (w.heap.size + 2) (w.heap.size + 3) a b c d weight minutes load W (by omega) hwt hmn hld q3 q0 q1 q2 ((hW.cell (p := ⟨pb, 1, none⟩) hpb).trans t1) ((hW.cell (p := ⟨pb, 12, none⟩) hpb).trans t12) (by omega) (by omega) (by omega) (by omega)
        (cell1_of ((hW.block w1.heap.size (by omega)).trans hp2)).1 (cell1_of ((hW.block (w.heap.size + 1) (by omega)).trans n1)).1 (cell1_of ((hW.block (w.heap.size + 2) (by omega)).trans n2)).1 (cell1_of ((hW.block (w.heap.size + 3) (by omega)).trans n3)).1))
  have e0 := (cell1_of hp2).1
  clear n1 n2 n3 t1 t12 hwk2 hb2 hp2
  go_wp2_with fail
  refine HAN.out.mono ?_
  rintro e w5 ⟨h1, h2, hb5⟩
  have HB5 := Lib.hid (HB2.out.trans (hb5.mono HB2.out.size))
  have hgn := grpT_nil HVV.out (lev := 0) (by decide)
  by_cases he : truthsM M = []
  · obtain rfl := h1 (hgn.2 he)
    have hpa : PA = (0, 3) := by rw [← HPA.out]; unfold pulledA; rw [if_pos he]
    subst hpa
    clear h1 h2 hb5 hgn he HAN e0
    go_wp2_with fail
    go_ret2
    exact ⟨rfl, HB5.out⟩
  · obtain ⟨v, L, rfl, hL, hown⟩ := h2 (fun h => he (hgn.1 h))
    have hlist := pulled_list HVV.out hld.1 he hL
    have hpa : PA = (knownI (pulledN M weight minutes load) (truthsM M).length, 0) := by rw [← HPA.out]; unfold pulledA; rw [if_neg he]
    obtain ⟨K, hK⟩ : ∃ K, knownI (pulledN M weight minutes load) (truthsM M).length = K := ⟨_, rfl⟩
    rw [hK] at hlist hpa
    have hKi : I64 K := by rw [← hK]; unfold knownI I64; split; omega; split <;> omega
    subst hpa
    clear h1 h2 hgn he HAN e0 hL hK
    rcases hlist with rfl | ⟨rfl, rfl⟩
    · obtain ⟨va, vc, vb, vo, rfl, _, _, hva, hvc, _⟩ := ints_of_own hown (by intro x hx; simp only [List.mem_singleton] at hx; subst hx; exact hKi)
      obtain ⟨rfl, hvb⟩ := hva (by simp)
      have c0 : w5.cell? ⟨vb, vo, none⟩ = some (.int .i64 K) := hvc 0 (by simp)
      clear hva hvc hown hb5
      simp only [List.length_cons, List.length_nil, Nat.zero_add]
      go_wp2_with fail
      go_ret2
      exact ⟨rfl, HB5.out⟩
    · obtain ⟨va, vc, vb, vo, rfl, _, _, hva, hvc, _⟩ := ints_of_own hown (by intro x hx; simp only [List.mem_cons, List.not_mem_nil, or_false] at hx; unfold I64; rcases hx with rfl | rfl <;> omega)
      clear hva hvc hown hb5
      simp only [List.length_cons, List.length_nil, Nat.zero_add, Nat.reduceAdd]
      go_wp2_with fail
      go_ret2
      exact ⟨rfl, HB5.out⟩
end Go.Proofs.Ytomcjopcfdllgaa
