/-
  Levers, walks: the answers of all truths, in order, each once.
-/
import Derived.Test.YtomcjopcfdllgaaVAnsG
import Derived.Test.YtomcjopcfdllgaaVMany

namespace Go.Proofs.Ytomcjopcfdllgaa
open Go.RowKit Go.Shelf Go.Maps Go.Sort

attribute [local go_sem] Oper.semAt_some

theorem row_far {w w' : World} {base : Nat} {e : TypeId} {size : Nat} {v : Value} {n : Nat} {xs : List Value} (h : w.ownsRow base e size v n xs) (hk : ∀ g, v.ownBlock = some g → w'.heap[g]? = w.heap[g]?) : w'.ownsRow base e size v n xs := by
  obtain ⟨h1, h2 | ⟨g, cap, cur, rfl, hb, hg, hn, hm, hs, ht⟩⟩ := h
  · exact ⟨h1, .inl h2⟩
  · exact ⟨h1, .inr ⟨g, cap, cur, rfl, hb, (hk g rfl).trans hg, hn, hm, hs, ht⟩⟩
set_option maxRecDepth 100000 in
set_option maxHeartbeats 8000000 in
theorem answers_in (n : Nat) (hn : n = 12) (M : Mach) (hV : ValidM M) (lev : Nat) (hl : lev < 3) (pb : Nat) (fid : FuncId) (lb : Array Value) (f : Ask4) (hf : ∀ a b c d, 1 ≤ a ∧ a ≤ 1000 → 1 ≤ b ∧ b ≤ 1000 → 1 ≤ c ∧ c ≤ 1000 → 0 ≤ d ∧ d ≤ 20 → I64 (f a b c d)) (w : World) (hx : WorkAt w.heap.size w pb M lev)
    (hegg : ∀ args w, (callFunc fid args).run Try.prog w = .ok (.enter fid args) w)
    (hask : ∀ a b c d W, 1 ≤ a ∧ a ≤ 1000 → 1 ≤ b ∧ b ≤ 1000 → 1 ≤ c ∧ c ≤ 1000 → 0 ≤ d ∧ d ≤ 20 → Below w.heap.size w W → Calls Try.prog fid (#[.agg #[.int .i64 a, .int .i64 b, .int .i64 c, .int .i64 d]] ++ lb) W fun e w' => e = .returned (.int .i64 (f a b c d)) ∧ Below W.heap.size W w') :
    CallsIn Fence.wide n Try.prog 56 #[.pointer (some ⟨pb, 0, none⟩), .func (.func fid) #[] lb] w fun e w' =>
      (grpT M lev = [] → e = .returned (.tuple #[.slice none 0 0, .int .i64 3])) ∧ (grpT M lev ≠ [] → ∃ v L, e = .returned (.tuple #[v, .int .i64 0]) ∧ AnsOf (asksG f M lev (grpT M lev)) L ∧ w'.ownsRow w.heap.size 3 1 v L.length (L.map (Value.int .i64))) ∧ Below w.heap.size w w' := by
  subst hn
  obtain ⟨F, hFF⟩ : ∃ F, F = Fence.wide := ⟨_, rfl⟩
  have hd : F.depth = none := by rw [hFF]; rfl
  have hro : F.round = none := by rw [hFF]; rfl
  have hfn : ∀ f, F.fn f := by rw [hFF]; exact fun _ => trivial
  rw [← hFF]
  have hF := Lib.hid hFF
  clear hFF
  have heg := Lib.hid hegg
  have HASK := Lib.hid hask
  have HX := Lib.hid hx
  clear hegg hask hx
  refine callsIn_of_wp_marks Try.func56 rfl (hfn _) ?_ hro
  simp only [Try.ntmps56, List.size_toArray, List.length_cons, List.length_nil, Nat.reduceAdd, Nat.reduceSub, Array.replicate_succ, Array.replicate_zero, List.push_toArray, List.append_toArray, List.nil_append, List.cons_append]
  have hmm := @run_makeMap Try.prog
  gi_wp2_with fail
  clear hmm
  obtain ⟨w2, hw2⟩ : ∃ w2, w2 = ((w.alloc (.cells #[.func (.func fid) #[] lb] 84)).alloc (.map #[] 0)).alloc (.cells #[.map (some (w.heap.size + 1))] 107) := ⟨_, rfl⟩
  have hs2 : w2.heap.size = w.heap.size + 3 := by rw [hw2]; simp
  have hb2 : Below w.heap.size w w2 := by rw [hw2]; exact (((Below.refl _ w).alloc (Nat.le_refl _) _).alloc (by simp) _).alloc (by simp; omega) _
  have hc3 : w2.heap[w.heap.size]? = some (.cells #[.func (.func fid) #[] lb] 84) := by rw [hw2]; exact (Below.heap_alloc _ _ _ (by simp; omega)).trans (heap_old1 _ _ _)
  have hm2 : w2.ownsMap Try.prog 3 (plainElem Try.prog 4) (w.heap.size + 1) (2 * ([] : List Grp).length) (askD (asksG f M lev [])) := by
    rw [hw2]
    have := World.ownsMap_made (w.alloc (.cells #[.func (.func fid) #[] lb] 84)) Try.prog 3 (plainElem (H := Unit) Try.prog 4)
    rw [World.size_alloc] at this
    exact this.alloc _
  have hc6 : w2.heap[w.heap.size + 2]? = some (.cells #[.map (some (w.heap.size + 1))] 107) := by
    rw [hw2]
    have := World.alloc_heap_new ((w.alloc (.cells #[.func (.func fid) #[] lb] 84)).alloc (.map #[] 0)) (.cells #[.map (some (w.heap.size + 1))] 107)
    simpa using this
  rw [← hw2]
  clear hw2
  have HB2 := Lib.hid hb2
  have HC32 := Lib.hid hc3
  have HC62 := Lib.hid hc6
  have hwk2 := HX.out.below hb2
  obtain ⟨b0, hb0e⟩ : ∃ b0, w.heap.size = b0 := ⟨_, rfl⟩
  rw [hb0e] at hs2 hb2 hc3 hc6 hm2 HB2 HC32 HC62 hwk2 HASK ⊢
  have HE := Lib.hid hb0e
  refine wpIn_truths F hF hd hro hfn (by omega) M hV lev hl pb b0 rfl hwk2 (by omega) rfl (fun k => k = b0 + 1) (fun k hk => by omega)
    (fun pre W => W.ownsMap Try.prog 3 (plainElem Try.prog 4) (b0 + 1) (2 * pre.length) (askD (asksG f M lev pre))) (fun _ _ _ => False)
    (fun s A A' h2 hk => map_far h2 (hk.block _ h2.lt (by omega))) (fun _ _ _ _ h _ => h) hm2
    (fun tm W g => { tmps := (tm.setIfInBounds 11 (grpV M lev g)).setIfInBounds 7 (.pointer (some ⟨W.heap.size, 0, none⟩)), defers := [] }) ?assign ?body ?done ?stop
  case assign =>
    intro l x W K hK
    rw [grpV_eq] at hK ⊢
    obtain ⟨x0, x1, x2, y0, y1, y2, lk, gm, hgc⟩ : ∃ x0 x1 x2 y0 y1 y2 lk gm, grpC M lev x = nine x0 x1 x2 lk y0 y1 y2 gm := ⟨_, _, _, _, _, _, _, _, rfl⟩
    rw [hgc] at hK ⊢
    unfold nine at hK ⊢
    gi_wp2
    exact hK
  case body =>
    intro l pre x V U hpre hI hkb hV2 hVU hgb hwU
    have hxg : x ∈ grpL M lev := (List.mem_filter.1 (hpre.subset (show x ∈ pre ++ [x] by simp))).1
    obtain ⟨hgx, hgy, hl0, hl20⟩ := gxy_ok hV hl hxg
    have hpl : pre.length ≤ 294000 := by
      have h1 := hpre.length_le
      have h2 := grpT_len hV (lev := lev)
      rw [List.length_append] at h1
      omega
    have hnn : 2 * pre.length < maxLen := by unfold maxLen; omega
    have hsn := asksG_snoc f M lev pre x
    have hx0 := hgx 0
    have hx1 := hgx 1
    have hx2 := hgx 2
    have hy0 := hgy 0
    have hy1 := hgy 1
    have hy2 := hgy 2
    rw [grpV_eq, grpC_is]
    rw [grpC_is] at hgb
    unfold nine at hgb ⊢
    obtain ⟨x0, ex0⟩ : ∃ a, gx M lev x 0 = a := ⟨_, rfl⟩
    obtain ⟨x1, ex1⟩ : ∃ a, gx M lev x 1 = a := ⟨_, rfl⟩
    obtain ⟨x2, ex2⟩ : ∃ a, gx M lev x 2 = a := ⟨_, rfl⟩
    obtain ⟨y0, ey0⟩ : ∃ a, gy M lev x 0 = a := ⟨_, rfl⟩
    obtain ⟨y1, ey1⟩ : ∃ a, gy M lev x 1 = a := ⟨_, rfl⟩
    obtain ⟨y2, ey2⟩ : ∃ a, gy M lev x 2 = a := ⟨_, rfl⟩
    obtain ⟨lk, elk⟩ : ∃ a, x.leak = a := ⟨_, rfl⟩
    obtain ⟨gm, egm⟩ : ∃ a, x.many = a := ⟨_, rfl⟩
    rw [ex0, ex1, ex2, ey0, ey1, ey2, elk, egm] at hgb ⊢
    rw [ex0, ex1, ex2, ey0, ey1, ey2, elk] at hsn
    rw [ex0] at hx0
    rw [ex1] at hx1
    rw [ex2] at hx2
    rw [ey0] at hy0
    rw [ey1] at hy1
    rw [ey2] at hy2
    rw [elk] at hl0 hl20
    have hfx := hf x0 x1 x2 lk hx0 hx1 hx2 ⟨hl0, hl20⟩
    have hfy := hf y0 y1 y2 lk hy0 hy1 hy2 ⟨hl0, hl20⟩
    have hbU : Below b0 w U := (HB2.out).trans (hkb.below (by omega) (fun k hk => by omega))
    have HCX := Lib.hid (fun m W (h : Below U.heap.size U W) => CallsIn.inRound l (inF hF (n := m) (HASK.out x0 x1 x2 lk W hx0 hx1 hx2 ⟨hl0, hl20⟩ (hbU.trans (h.mono (by have := hkb.size; omega))))))
    have HCY := Lib.hid (fun m W (h : Below b0 U W) => CallsIn.inRound l (inF hF (n := m) (HASK.out y0 y1 y2 lk W hy0 hy1 hy2 ⟨hl0, hl20⟩ (hbU.trans h))))
    obtain ⟨AX, hAX⟩ : ∃ a, f x0 x1 x2 lk = a := ⟨_, rfl⟩
    obtain ⟨AY, hAY⟩ : ∃ a, f y0 y1 y2 lk = a := ⟨_, rfl⟩
    rw [hAX] at hfx HCX hsn
    rw [hAY] at hfy HCY hsn
    have HKYX := Lib.hid (show keyOf Try.prog 3 (.int .i64 AX) = some (.int .i64 AX) by simp [keyOf, Try.underlying3, mapKey, WalkArith.wf_i64 hfx])
    have HKYY := Lib.hid (show keyOf Try.prog 3 (.int .i64 AY) = some (.int .i64 AY) by simp [keyOf, Try.underlying3, mapKey, WalkArith.wf_i64 hfy])
    have hUs := hkb.size
    have HC3U := Lib.hid ((hkb.block b0 (by omega) (by omega)).trans HC32.out)
    have HC6U := Lib.hid ((hkb.block (b0 + 2) (by omega) (by omega)).trans HC62.out)
    have HC3 := Lib.hid (cell1_of HC3U.out).1
    have HC6 := Lib.hid (cell1_of HC6U.out).1
    obtain ⟨GB, hGB⟩ : ∃ GB, V.heap.size = GB := ⟨_, rfl⟩
    rw [hGB] at hV2 hVU hgb ⊢
    have HGB := Lib.hid hgb
    have HMAP := Lib.hid hI
    have HSN := Lib.hid hsn
    have hlm := hI.lt
    have hgl : GB < U.heap.size := hVU
    have hl3 : (⟨b0, 0, none⟩ : Addr).block < U.heap.size := by show b0 < _; omega
    have hl6 : (⟨b0 + 2, 0, none⟩ : Addr).block < U.heap.size := by show b0 + 2 < _; omega
    have hd0 : (F.inRound l).depth = none := hd
    clear hgb hI hsn hkb hpre hxg hwU hwk2 hb2 hc3 hc6 hm2 hgx hgy hx0 hx1 hx2 hy0 hy1 hy2 hfx hfy ex0 ex1 ex2 ey0 ey1 ey2 elk egm hGB hAX hAY hbU hl0 hl20
    gi_wp2_with fail
    refine wpIn_region_factsA _ 5 [12, 13, 14, 15, 16] [isV (.map (some (b0 + 1))), isV (.func (.func fid) #[] lb), isV (.pointer (some ⟨GB, 0, none⟩)), isV (.agg #[.int .i64 x0, .int .i64 x1, .int .i64 x2, .int .i64 lk]), ⟨fun v W => v = .int .i64 AX, fun _ _ _ h _ => h⟩] (by kernel_rfl) (by kernel_rfl) rfl (by decide) (by decide) (by simp) ?step ?rest
    case step =>
      intro i ac W d hi hd hb hoff hdep
      have z0 := (hb.cell hl6).trans HC6.out
      have z1 := (hb.cell hl3).trans HC3.out
      obtain ⟨g0, g1, g2, g3, g4, g5, g6, g7, g8⟩ := cells9 ((hb.block GB hgl).trans HGB.out)
      have hi2 : i = 0 ∨ i = 1 ∨ i = 2 ∨ i = 3 ∨ i = 4 := by omega
      rcases hi2 with rfl | rfl | rfl | rfl | rfl
      · obtain rfl : 12 = d := by simpa using hd
        have q6 : ac.tmps[6]?.getD undef = .pointer (some ⟨b0 + 2, 0, none⟩) := (eval_tmp _ _).symm.trans <| (hoff 6 (by decide)).trans rfl
        refine fact_valueIn (fun f => hfn f) rfl (by intro c h; cases h) rfl rfl (v := .map (some (b0 + 1))) (W' := W) ?_ (Below.refl _ _) rfl
        simp only [execOp]
        go_simp
      · obtain rfl : 13 = d := by simpa using hd
        have q3 : ac.tmps[3]?.getD undef = .pointer (some ⟨b0, 0, none⟩) := (eval_tmp _ _).symm.trans <| (hoff 3 (by decide)).trans rfl
        refine fact_valueIn (fun f => hfn f) rfl (by intro c h; cases h) rfl rfl (v := .func (.func fid) #[] lb) (W' := W) ?_ (Below.refl _ _) rfl
        simp only [execOp]
        go_simp
      · obtain rfl : 14 = d := by simpa using hd
        have q7 : ac.tmps[7]?.getD undef = .pointer (some ⟨GB, 0, none⟩) := (eval_tmp _ _).symm.trans <| (hoff 7 (by decide)).trans rfl
        refine fact_valueIn (fun f => hfn f) rfl (by intro c h; cases h) rfl rfl (v := .pointer (some ⟨GB, 0, none⟩)) (W' := W) ?_ (Below.refl _ _) rfl
        simp only [execOp]
        go_simp
      · obtain rfl : 15 = d := by simpa using hd
        have q14 : ac.tmps[14]?.getD undef = .pointer (some ⟨GB, 0, none⟩) := (eval_tmp _ _).symm.trans (hdep 2 14 rfl rfl)
        refine fact_valueIn (fun f => hfn f) rfl (by intro c h; cases h) rfl rfl (v := .agg #[.int .i64 x0, .int .i64 x1, .int .i64 x2, .int .i64 lk]) (W' := W) ?_ (Below.refl _ _) rfl
        simp only [execOp]
        go_simp
      · obtain rfl : 16 = d := by simpa using hd
        have q13 : ac.tmps[13]?.getD undef = .func (.func fid) #[] lb := (eval_tmp _ _).symm.trans (hdep 1 13 rfl rfl)
        have q15 : ac.tmps[15]?.getD undef = .agg #[.int .i64 x0, .int .i64 x1, .int .i64 x2, .int .i64 lk] := (eval_tmp _ _).symm.trans (hdep 3 15 rfl rfl)
        refine fact_callIn (fun f => hfn f) hd0 rfl (by intro c h; cases h) rfl rfl (f := fid) (args := #[.agg #[.int .i64 x0, .int .i64 x1, .int .i64 x2, .int .i64 lk]] ++ lb) ?_ ?_
        · simp only [execOp]
          go_simp
          simp [heg.out]
        · refine (HCX.out _ W hb).mono ?_
          rintro e w' ⟨rfl, hb2⟩
          exact ⟨_, rfl, hb2, rfl⟩
    case rest =>
      intro vs W hvl hb hval
      obtain ⟨v0, v1, v2, v3, v4, rfl⟩ : ∃ v0 v1 v2 v3 v4, vs = [v0, v1, v2, v3, v4] := by
        match vs, hvl with
        | [v0, v1, v2, v3, v4], _ => exact ⟨v0, v1, v2, v3, v4, rfl⟩
      obtain rfl : v0 = .map (some (b0 + 1)) := by obtain ⟨u, e, h⟩ := hval 0 (by omega); have e2 : some v0 = some u := e; injection e2 with e2; subst e2; exact h
      obtain rfl : v1 = .func (.func fid) #[] lb := by obtain ⟨u, e, h⟩ := hval 1 (by omega); have e2 : some v1 = some u := e; injection e2 with e2; subst e2; exact h
      obtain rfl : v2 = .pointer (some ⟨GB, 0, none⟩) := by obtain ⟨u, e, h⟩ := hval 2 (by omega); have e2 : some v2 = some u := e; injection e2 with e2; subst e2; exact h
      obtain rfl : v3 = .agg #[.int .i64 x0, .int .i64 x1, .int .i64 x2, .int .i64 lk] := by obtain ⟨u, e, h⟩ := hval 3 (by omega); have e2 : some v3 = some u := e; injection e2 with e2; subst e2; exact h
      have k4 : v4 = .int .i64 AX := by obtain ⟨u, e, h⟩ := hval 4 (by omega); have e2 : some v4 = some u := e; injection e2 with e2; subst e2; exact h
      clear hval hvl
      simp only [putL, Act.put, List.setIfInBounds_toArray, List.set_cons_zero, List.set_cons_succ]
      rw [k4]
      obtain ⟨w5, hrun5, hmap5, hgrow5⟩ := (map_far HMAP.out (hb.block (b0 + 1) hlm)).update (int_keyed Try.underlying3) Try.underlying107 hnn (key := .int .i64 AX) (val := .bool true) (kl := .int .i64 AX) (d := .lit (.bool true)) (ps := []) HKYX.out (plainElem_bool Try.underlying4 true)
      refine wpAnyIn_ready (rs := [5]) (by kernel_rfl) (by simp) ?_
      refine AllReadyIn.cons rfl (fun K hK => ?_) AllReadyIn.nil
      go_simp
      refine hK _ _ ?_
      clear hK K
      refine wpAnyIn_done (by kernel_rfl) ?_ _
      have hk5 : KeptBut (fun k => k = b0 + 1) U w5 := (KeptBut.of_below hb).trans (KeptBut.grown hgrow5 (fun r h => by injection h with h; exact h.symm))
      have hs5 := hk5.size
      have HK5 := Lib.hid hk5
      have HC35 := Lib.hid ((hk5.block b0 (by omega) (by omega)).trans HC3U.out)
      have HC65 := Lib.hid ((hk5.block (b0 + 2) (by omega) (by omega)).trans HC6U.out)
      have hgb5 := (hk5.block GB hgl (by omega)).trans HGB.out
      have hbU5 : Below b0 U w5 := hk5.below (by omega) (fun k hk => by omega)
      have HCY5 := Lib.hid (fun m W (h : Below w5.heap.size w5 W) => HCY.out m W (hbU5.trans (h.mono (by omega))))
      have HMAP5 := Lib.hid hmap5
      clear hk5 hmap5 hgrow5 hrun5 hbU5 k4 hb HC3 HC6 HGB HMAP HCX HCY HC3U HC6U
      have HC3 := Lib.hid (cell1_of HC35.out).1
      have HC6 := Lib.hid (cell1_of HC65.out).1
      have HGB := Lib.hid hgb5
      have HMAP := HMAP5
      have hlm := HMAP5.out.lt
      have hgl : GB < w5.heap.size := heap_lt hgb5
      have hl3 : (⟨b0, 0, none⟩ : Addr).block < w5.heap.size := by show b0 < _; omega
      have hl6 : (⟨b0 + 2, 0, none⟩ : Addr).block < w5.heap.size := by show b0 + 2 < _; omega
      have hnn2 : 2 * pre.length + 1 < maxLen := by unfold maxLen; omega
      clear hgb5
      obtain ⟨wA, hwA⟩ : ∃ wA, wA = w5 := ⟨_, rfl⟩
      subst hwA
      gi_wp2_with fail
      refine wpIn_region_factsA _ 5 [17, 18, 19, 20, 21] [isV (.map (some (b0 + 1))), isV (.func (.func fid) #[] lb), isV (.pointer (some ⟨GB, 4, none⟩)), isV (.agg #[.int .i64 y0, .int .i64 y1, .int .i64 y2, .int .i64 lk]), ⟨fun v W => v = .int .i64 AY, fun _ _ _ h _ => h⟩] (by kernel_rfl) (by kernel_rfl) rfl (by decide) (by decide) (by simp) ?step ?rest
      case step =>
        intro i ac W d hi hd hb hoff hdep
        have z0 := (hb.cell hl6).trans HC6.out
        have z1 := (hb.cell hl3).trans HC3.out
        obtain ⟨g0, g1, g2, g3, g4, g5, g6, g7, g8⟩ := cells9 ((hb.block GB hgl).trans HGB.out)
        have hi2 : i = 0 ∨ i = 1 ∨ i = 2 ∨ i = 3 ∨ i = 4 := by omega
        rcases hi2 with rfl | rfl | rfl | rfl | rfl
        · obtain rfl : 17 = d := by simpa using hd
          have q6 : ac.tmps[6]?.getD undef = .pointer (some ⟨b0 + 2, 0, none⟩) := (eval_tmp _ _).symm.trans <| (hoff 6 (by decide)).trans rfl
          refine fact_valueIn (fun f => hfn f) rfl (by intro c h; cases h) rfl rfl (v := .map (some (b0 + 1))) (W' := W) ?_ (Below.refl _ _) rfl
          simp only [execOp]
          go_simp
        · obtain rfl : 18 = d := by simpa using hd
          have q3 : ac.tmps[3]?.getD undef = .pointer (some ⟨b0, 0, none⟩) := (eval_tmp _ _).symm.trans <| (hoff 3 (by decide)).trans rfl
          refine fact_valueIn (fun f => hfn f) rfl (by intro c h; cases h) rfl rfl (v := .func (.func fid) #[] lb) (W' := W) ?_ (Below.refl _ _) rfl
          simp only [execOp]
          go_simp
        · obtain rfl : 19 = d := by simpa using hd
          have q7 : ac.tmps[7]?.getD undef = .pointer (some ⟨GB, 0, none⟩) := (eval_tmp _ _).symm.trans <| (hoff 7 (by decide)).trans rfl
          refine fact_valueIn (fun f => hfn f) rfl (by intro c h; cases h) rfl rfl (v := .pointer (some ⟨GB, 4, none⟩)) (W' := W) ?_ (Below.refl _ _) rfl
          simp only [execOp]
          go_simp
        · obtain rfl : 20 = d := by simpa using hd
          have q19 : ac.tmps[19]?.getD undef = .pointer (some ⟨GB, 4, none⟩) := (eval_tmp _ _).symm.trans (hdep 2 19 rfl rfl)
          refine fact_valueIn (fun f => hfn f) rfl (by intro c h; cases h) rfl rfl (v := .agg #[.int .i64 y0, .int .i64 y1, .int .i64 y2, .int .i64 lk]) (W' := W) ?_ (Below.refl _ _) rfl
          simp only [execOp]
          go_simp
        · obtain rfl : 21 = d := by simpa using hd
          have q18 : ac.tmps[18]?.getD undef = .func (.func fid) #[] lb := (eval_tmp _ _).symm.trans (hdep 1 18 rfl rfl)
          have q20 : ac.tmps[20]?.getD undef = .agg #[.int .i64 y0, .int .i64 y1, .int .i64 y2, .int .i64 lk] := (eval_tmp _ _).symm.trans (hdep 3 20 rfl rfl)
          refine fact_callIn (fun f => hfn f) hd0 rfl (by intro c h; cases h) rfl rfl (f := fid) (args := #[.agg #[.int .i64 y0, .int .i64 y1, .int .i64 y2, .int .i64 lk]] ++ lb) ?_ ?_
          · simp only [execOp]
            go_simp
            simp [heg.out]
          · refine (HCY5.out _ W hb).mono ?_
            rintro e w' ⟨rfl, hb2⟩
            exact ⟨_, rfl, hb2, rfl⟩
      case rest =>
        intro vs W hvl hb hval
        obtain ⟨v0, v1, v2, v3, v4, rfl⟩ : ∃ v0 v1 v2 v3 v4, vs = [v0, v1, v2, v3, v4] := by
          match vs, hvl with
          | [v0, v1, v2, v3, v4], _ => exact ⟨v0, v1, v2, v3, v4, rfl⟩
        obtain rfl : v0 = .map (some (b0 + 1)) := by obtain ⟨u, e, h⟩ := hval 0 (by omega); have e2 : some v0 = some u := e; injection e2 with e2; subst e2; exact h
        obtain rfl : v1 = .func (.func fid) #[] lb := by obtain ⟨u, e, h⟩ := hval 1 (by omega); have e2 : some v1 = some u := e; injection e2 with e2; subst e2; exact h
        obtain rfl : v2 = .pointer (some ⟨GB, 4, none⟩) := by obtain ⟨u, e, h⟩ := hval 2 (by omega); have e2 : some v2 = some u := e; injection e2 with e2; subst e2; exact h
        obtain rfl : v3 = .agg #[.int .i64 y0, .int .i64 y1, .int .i64 y2, .int .i64 lk] := by obtain ⟨u, e, h⟩ := hval 3 (by omega); have e2 : some v3 = some u := e; injection e2 with e2; subst e2; exact h
        have k4 : v4 = .int .i64 AY := by obtain ⟨u, e, h⟩ := hval 4 (by omega); have e2 : some v4 = some u := e; injection e2 with e2; subst e2; exact h
        clear hval hvl
        simp only [putL, Act.put, List.setIfInBounds_toArray, List.set_cons_zero, List.set_cons_succ]
        rw [k4]
        obtain ⟨w5, hrun5, hmap5, hgrow5⟩ := (map_far HMAP.out (hb.block (b0 + 1) hlm)).update (int_keyed Try.underlying3) Try.underlying107 hnn2 (key := .int .i64 AY) (val := .bool true) (kl := .int .i64 AY) (d := .lit (.bool true)) (ps := []) HKYY.out (plainElem_bool Try.underlying4 true)
        refine wpAnyIn_ready (rs := [5]) (by kernel_rfl) (by simp) ?_
        refine AllReadyIn.cons rfl (fun K hK => ?_) AllReadyIn.nil
        go_simp
        refine hK _ _ ?_
        clear hK K
        refine wpAnyIn_done (by kernel_rfl) ?_ _
        gi_wp2_with fail
        have hk9 : KeptBut (fun k => k = b0 + 1) wA w5 := (KeptBut.of_below hb).trans (KeptBut.grown hgrow5 (fun r h => by injection h with h; exact h.symm))
        refine ⟨HK5.out.trans hk9, ?_⟩
        show w5.ownsMap Try.prog 3 (plainElem Try.prog 4) (b0 + 1) (2 * (pre ++ [x]).length) (askD (asksG f M lev (pre ++ [x])))
        rw [HSN.out, askD_snoc, askD_snoc, List.length_append]
        exact hmap5
  case done =>
    rintro D W hD hkb hI hK
    have hkB : Below b0 w W := HB2.out.trans (hkb.below (by omega) (fun k hk => by omega))
    have hWs := hkb.size
    have hDn : b0 + 1 ≠ D := by omega
    have HC6W := Lib.hid ((hkb.block (b0 + 2) (by omega) (by omega)).trans HC62.out)
    have z6 := (cell1_of HC6W.out).1
    have hT := grpT_len hV (lev := lev)
    have hsz := askD_size (asksG f M lev (grpT M lev))
    rw [asksG_len] at hsz
    have hlen := hI.len Try.underlying107 3
    have hz := askD_zero (asksG f M lev (grpT M lev))
    obtain ⟨SZ, hSZ⟩ : ∃ SZ, Maps.size (askD (asksG f M lev (grpT M lev))) = SZ := ⟨_, rfl⟩
    rw [hSZ] at hlen hz hsz
    have hbW : b0 + 3 ≤ W.heap.size := by omega
    have hbD : b0 ≤ D := by omega
    have hge : SZ = 0 ↔ grpT M lev = [] := by
      rw [hz, ← List.length_eq_zero_iff, asksG_len, ← List.length_eq_zero_iff]
      omega
    have HI := Lib.hid hI
    have HSZ := Lib.hid hSZ
    clear hI hwk2 hb2 hc3 hc6 hm2 hs2 hD hz hSZ
    have hfin : Below b0 w (W.putObj D (.deferred none)) := hkB.trans (putObj_below _ _ (by omega))
    by_cases h0 : SZ = 0
    · have HEE := Lib.hid (hge.1 h0)
      subst h0
      clear hge hsz hT HSZ HI
      gi_wp2
      refine ⟨by simp, .inl ⟨_, _, rfl, run_takeDeferred hK, ?_⟩⟩
      exact ⟨_, results_tmp2 rfl _ _ _, fun _ => rfl, fun h => absurd HEE.out h, by rw [← HE.out]  at hfin; exact hfin⟩
    · have HEE := Lib.hid (show ¬ grpT M lev = [] from fun h => h0 (hge.2 h))
      have hz1 : ((SZ : Int) == 0) = false := by simp; omega
      have HKC := Lib.hid (fun m => inF hF (n := m) (callsIn_wide.1 (keys_call 5 (some (b0 + 1)) W)))
      have HSC := Lib.hid (fun m => inF hF (n := m) (callsIn_wide.1 (sorted_call (b0 + 1) _ _ W HI.out (by rw [HSZ.out]; unfold maxLen; omega) (by rw [HSZ.out]; omega))))
      clear hge hsz hT HSZ HI
      gi_wp2_with fail
      refine (HKC.out _).mono ?_
      rintro e w' ⟨rfl, rfl⟩
      gi_wp2_with fail
      refine (HSC.out _).mono ?_
      rintro e w5 ⟨v, L, rfl, hA, hrow, hb5⟩
      have hDl := heap_lt hK
      have hK5 := (hb5.block D hDl).trans hK
      have hrow5 := row_far (w' := w5.putObj D (.deferred none)) hrow (fun g hg => World.putObj_heap_other (by have := (hrow.lt g hg).1; omega))
      have hbf : Below b0 w (w5.putObj D (.deferred none)) := (hkB.trans (hb5.mono (by omega))).trans (putObj_below _ _ (by omega))
      have HA5 := Lib.hid hA
      have HR5 := Lib.hid (ownsRow_base_a hrow5 (show b0 ≤ W.heap.size by omega))
      have HBF := Lib.hid hbf
      clear hA hrow hrow5 hbf hb5 hK hlen z6 hfin hkB
      gi_wp2
      refine ⟨by simp, .inl ⟨_, _, rfl, run_takeDeferred hK5, ?_⟩⟩
      refine ⟨_, results_tmp2 rfl _ _ _, fun h => absurd h HEE.out, fun _ => ⟨v, L, rfl, HA5.out, ?_⟩, ?_⟩
      · rw [HE.out]; exact HR5.out
      · rw [HE.out]; exact HBF.out
  case stop =>
    rintro D c pre W _ _ _ h _
    exact h.elim
theorem answers_any (M : Mach) (hV : ValidM M) (lev : Nat) (hl : lev < 3) (pb : Nat) (fid : FuncId) (lb : Array Value) (f : Ask4) (hf : ∀ a b c d, 1 ≤ a ∧ a ≤ 1000 → 1 ≤ b ∧ b ≤ 1000 → 1 ≤ c ∧ c ≤ 1000 → 0 ≤ d ∧ d ≤ 20 → I64 (f a b c d)) (w : World) (hx : WorkAt w.heap.size w pb M lev)
    (hegg : ∀ args w, (callFunc fid args).run Try.prog w = .ok (.enter fid args) w)
    (hask : ∀ a b c d W, 1 ≤ a ∧ a ≤ 1000 → 1 ≤ b ∧ b ≤ 1000 → 1 ≤ c ∧ c ≤ 1000 → 0 ≤ d ∧ d ≤ 20 → Below w.heap.size w W → Calls Try.prog fid (#[.agg #[.int .i64 a, .int .i64 b, .int .i64 c, .int .i64 d]] ++ lb) W fun e w' => e = .returned (.int .i64 (f a b c d)) ∧ Below W.heap.size W w') :
    Calls Try.prog 56 #[.pointer (some ⟨pb, 0, none⟩), .func (.func fid) #[] lb] w fun e w' =>
      (grpT M lev = [] → e = .returned (.tuple #[.slice none 0 0, .int .i64 3])) ∧ (grpT M lev ≠ [] → ∃ v L, e = .returned (.tuple #[v, .int .i64 0]) ∧ AnsOf (asksG f M lev (grpT M lev)) L ∧ w'.ownsRow w.heap.size 3 1 v L.length (L.map (Value.int .i64))) ∧ Below w.heap.size w w' :=
  wide_calls (answers_in 12 rfl M hV lev hl pb fid lb f hf w hx hegg hask)
end Go.Proofs.Ytomcjopcfdllgaa
