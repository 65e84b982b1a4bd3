/-
  Levers, the law's reference: all settings that begin with some arms.
-/
import Derived.Test.YtomcjopcfdllgaaVSetsM

namespace Go.Proofs.Ytomcjopcfdllgaa
open Go.RowKit Go.Shelf

/-- A row of settings in memory of the call's own is the answer. -/
def GaveSets (xs : List (List Int × Int)) (w : World) (e : Ending) (w' : World) : Prop := ∃ u, e = .returned u ∧ SetsAt w' w.heap.size u xs ∧ Below w.heap.size w w'
set_option maxRecDepth 100000 in
set_option maxHeartbeats 8000000 in
theorem all_done (M : Mach) (hV : ValidM M) (first : List Int) (hl : first.length = M.levers.length) (v u : Value) (w : World) (hx : MachAt w.heap.size w v M) (hu : OwnInts w u first) :
    Calls Try.prog 72 #[v, u] w (GaveSets (setsFrom M first) w) := by
  obtain ⟨a, cap, a2, cap2, rfl⟩ := hx.form
  obtain ⟨uA, uc, rfl, _⟩ := own_form hu
  obtain ⟨O, hO⟩ : ∃ O, O = Obj.cells #[.slice a M.levers.length cap, .int .i64 M.water, .int .i64 M.lkLo, .int .i64 M.lkHi, .slice a2 M.bals.length cap2, .int .i64 M.wrong] 27 := ⟨_, rfl⟩
  have HO := Lib.hid hO
  have HU := Lib.hid hu
  have HD := Lib.hid (setsFrom_done (M := M) hl)
  have hlk := hV.leak
  have HW0 := Lib.hid (show MStat w (w.alloc O) w.heap.size O from ⟨(Below.refl _ w).alloc (Nat.le_refl _) _, Nat.le_refl _, heap_new w O⟩)
  have hs := HW0.out.blk
  obtain ⟨iS, hiS, hz0, hz1, hz2⟩ := info_parts Try_infoSet
  have hlen : ((first.length : Int) == (M.levers.length : Int)) = true := by rw [beq_iff_eq]; omega
  rw [hO] at hs
  obtain ⟨c0, c1, c2, c3, c4, c5⟩ := cells6 hs
  clear hs hx hu hO hl
  go_enter Try.func72, Try.ntmps72
  go_wp2_with fail
  rw [← HO.out]
  go_loopw [5, 6] (fun out lk wr => ∃ n : Int, (M.lkLo ≤ n ∧ n ≤ M.lkHi + 1) ∧ lk = .int .i64 n ∧ Hid (SetsAt wr w.heap.size out ((rangeL M.lkLo (n - 1)).map (fun k => (first, k)))) ∧ Hid (MStat w wr w.heap.size O)) (fun _ lk _ => (M.lkHi + 1 - intOf lk).toNat)
  case atStart => exact ⟨M.lkLo, by omega, rfl, Lib.hid (by rw [range_none]; exact SetsAt.nil _ _), HW0⟩
  case round =>
    obtain ⟨n, hn, rfl, hlists, hst⟩ := hrel
    have hblk := hst.out.blk
    rw [HO.out] at hblk
    clear c0 c1 c2 c3 c4 c5
    obtain ⟨c0, c1, c2, c3, c4, c5⟩ := cells6 hblk
    obtain ⟨vs, l1, l2, l3⟩ := hlists.out
    obtain ⟨oA, oc, rfl, _⟩ := own_form l2
    obtain ⟨P, hP⟩ : ∃ P, (rangeL M.lkLo (n - 1)).map (fun k => (first, k)) = P := ⟨_, rfl⟩
    have HP := Lib.hid hP
    have hln : P.length ≤ 21 := by rw [← hP, List.length_map, range_len]; omega
    rw [hP] at l1 l2 l3
    obtain ⟨ln, hlnn⟩ : ∃ ln, P.length = ln := ⟨_, rfl⟩
    rw [hP, hlnn] at hlists ⊢
    rw [hlnn] at l2 hln
    have HLN := Lib.hid hlnn
    have L1 := Lib.hid l1
    have L2 := Lib.hid l2
    have L3 := Lib.hid l3
    clear l1 l2 l3 hlnn hP hblk hlists
    by_cases hlt : n ≤ M.lkHi
    · go_wp2_with (at_builtin; go_loud (refine wpList_onto (base := w.heap.size) (v := .slice oA ln oc) (n := ln) (xs := setC vs P) (A := some ⟨wr.heap.size, 0, none⟩) (m := 1) (c := 1) (news := [.slice uA first.length uc, .int .i64 n]) rfl (.tmp 25) (.tmp 29) rfl Try.underlying101 hiS hz0 hz1 hz2 rfl (by decide) rfl (L2.out.alloc _) rfl (from_two _ _ _ _) (by simp [Value.oneCell']) (by unfold maxLen; omega) (by omega) (by have := hst.out.b.size; simp; omega) ?_; intro A9 c9 w9 hown9 hgrow9 hat9; have HOWN9 := Lib.hid hown9; have HG9 := Lib.hid hgrow9; clear hown9 hgrow9 hat9))
      have HBA := Lib.hid ((Below.refl _ wr).alloc (Nat.le_refl _) (.cells #[.slice uA first.length uc, .int .i64 n] 30))
      have hs9 := (hst.out.next HBA.out).grown HG9.out (fun j e => (L2.out.lt j e).1) (own_ne_type (own_below L2.out HBA.out) ((hst.out.next HBA.out).blk.trans (congrArg some HO.out)) (by decide))
      have HS9 := Lib.hid hs9
      have HUW := Lib.hid (HU.out.below (hst.out.b.trans (HBA.out.mono hst.out.b.size)))
      have HPQ := Lib.hid (show (rangeL M.lkLo (n + 1 - 1)).map (fun k => (first, k)) = P ++ [(first, n)] by rw [show n + 1 - 1 = n by omega, range_snocS (by omega), List.map_append, HP.out]; rfl)
      have HAP := Lib.hid (SetsAt.append (xs := P) (ys := [(first, n)]) (vs' := [.slice uA first.length uc]) L1.out (by rw [HLN.out]; exact own_below L2.out HBA.out) (fun i hi => by obtain ⟨v, h4, h5⟩ := L3.out i hi; exact ⟨v, h4, h5.below HBA.out⟩) rfl (fun i hi => by obtain rfl : i = 0 := (by simpa using hi); exact ⟨_, rfl, HUW.out⟩) HG9.out (by rw [HLN.out]; exact HOWN9.out))
      clear hs9
      refine ⟨⟨n + 1, by omega, by go_num, Lib.hid ?_, HS9.out⟩, by simp [intOf]; omega⟩
      rw [HPQ.out]
      exact HAP.out
    · obtain rfl : n = M.lkHi + 1 := by omega
      go_wp2
      go_ret
      refine ⟨_, rfl, ?_, hst.out.b⟩
      have e : M.lkHi + 1 - 1 = M.lkHi := by omega
      rw [HD.out, ← e, HP.out]
      exact ⟨vs, L1.out, by rw [HLN.out]; exact L2.out, L3.out⟩
/-- A machine and a span in variables. -/
structure TSt (w W : World) (o o2 : Obj) : Prop where
  m : MStat w W w.heap.size o
  s : MStat w W (w.heap.size + 1) o2
theorem TSt.next {w W W' : World} {o o2 : Obj} (h : TSt w W o o2) (hb : Below W.heap.size W W') : TSt w W' o o2 := ⟨h.m.next hb, h.s.next hb⟩
theorem TSt.grown {w W W' : World} {o o2 : Obj} {row : Option Nat} (h : TSt w W o o2) (hg : W.grownBy W' row) (hr : ∀ j, row = some j → w.heap.size ≤ j) (hn : row ≠ some w.heap.size) (hn2 : row ≠ some (w.heap.size + 1)) : TSt w W' o o2 := ⟨h.m.grown hg hr hn, h.s.grown hg hr hn2⟩
theorem mst_cells {W : World} {k : Nat} {o : Obj} {v0 v1 v2 v3 v4 v5 : Value} {t : TypeId} (h : W.heap[k]? = some o) (ho : o = .cells #[v0, v1, v2, v3, v4, v5] t) :
    W.cell? ⟨k, 0, none⟩ = some v0 ∧ W.cell? ⟨k, 1, none⟩ = some v1 ∧ W.cell? ⟨k, 2, none⟩ = some v2 ∧ W.cell? ⟨k, 3, none⟩ = some v3 ∧ W.cell? ⟨k, 4, none⟩ = some v4 ∧ W.cell? ⟨k, 5, none⟩ = some v5 := cells6 (h.trans (congrArg some ho))
theorem from_oneN (w : World) (x : Value) (t : TypeId) : CellsFrom (w.alloc (.cells #[x] t)) (some ⟨w.heap.size, 0, none⟩) 1 1 [x] := ⟨rfl, fun _ => ⟨_, rfl, World.news_of_block (fr := (0, 0)) (heap_new _ _)⟩⟩
theorem int_row {w : World} {base c : Nat} {A : Option Addr} {first : List Int} {y : Int} (h : w.ownsRow base 3 1 (.slice A (first.length + 1) c) (first.length + 1) (first.map (Value.int .i64) ++ [.int .i64 y])) :
    OwnInts w (.slice A (first.length + 1) c) (first ++ [y]) := by
  simp only [OwnInts, List.length_append, List.length_cons, List.length_nil, List.map_append, List.map_cons, List.map_nil]
  exact own_base h (Nat.zero_le _)
set_option maxRecDepth 100000 in
set_option maxHeartbeats 16000000 in
theorem all_any (M : Mach) (hV : ValidM M) : ∀ (m : Nat) (first : List Int), first.length + m = M.levers.length → ∀ (v u : Value) (w : World), MachAt w.heap.size w v M → OwnInts w u first →
    Calls Try.prog 72 #[v, u] w (GaveSets (setsFrom M first) w) := by
  intro m
  induction m with
  | zero => exact fun first hl v u w hx hu => all_done M hV first (by omega) v u w hx hu
  | succ m ih =>
    intro first hl v u w hx hu
    have HX := Lib.hid (fun W (hb : Below w.heap.size w W) => (hx.below hb).mono hb.size)
    obtain ⟨a, cap, b, off, a2, cap2, b2, off2, rfl, hm, hm2, HA, HC, HA2, HC2, HI, HI2, HW⟩ := hx.opened
    have hfl : first.length < M.levers.length := by omega
    obtain ⟨rfl, hbw⟩ := HA.out (by omega)
    have hT := HC.out first.length hfl
    obtain ⟨uA, uc, rfl, _⟩ := own_form hu
    obtain ⟨O, hO⟩ : ∃ O, O = Obj.cells #[.slice (some ⟨b, off, none⟩) M.levers.length cap, .int .i64 M.water, .int .i64 M.lkLo, .int .i64 M.lkHi, .slice a2 M.bals.length cap2, .int .i64 M.wrong] 27 := ⟨_, rfl⟩
    have HO := Lib.hid hO
    have HU := Lib.hid hu
    have HIH := Lib.hid ih
    have HD := Lib.hid (setsFrom_next (M := M) hfl)
    have hlv := hV.lev (lnth M.levers first.length) (by rw [lnth_lt hfl]; exact List.getElem_mem hfl)
    have HL := Lib.hid hl
    have hbA := (Below.refl w.heap.size w).alloc (Nat.le_refl _) O
    have HW0 := Lib.hid (show MStat w (w.alloc O) w.heap.size O from ⟨hbA, Nat.le_refl _, heap_new w O⟩)
    obtain ⟨d0, d1, d2⟩ := hT.below hbA hbw
    obtain ⟨LO, hLO⟩ : ∃ x, (lnth M.levers first.length).lo = x := ⟨_, rfl⟩
    obtain ⟨HH, hHH⟩ : ∃ x, (lnth M.levers first.length).hi = x := ⟨_, rfl⟩
    rw [hLO] at d1 hlv HD
    rw [hHH] at d2 hlv HD
    rw [hO] at d1 d2
    have hs := HW0.out.blk
    obtain ⟨i0, hi, hz0, hz1, hz2⟩ := info_parts Try_infoN
    obtain ⟨iS, hiS, hy0, hy1, hy2⟩ := info_parts Try_infoSet
    have hlen : ((first.length : Int) == (M.levers.length : Int)) = false := by rw [beq_eq_false_iff_ne]; omega
    rw [hO] at hs
    obtain ⟨c0, c1, c2, c3, c4, c5⟩ := cells6 hs
    have hfl' : (first.length : Int) < (M.levers.length : Int) := by omega
    clear hs hx hu hO hl ih hbA hT hLO hHH d0 HA HC HA2 HC2 HI HI2 HW
    go_enter Try.func72, Try.ntmps72
    go_wp2_with fail
    rw [← HO.out]
    have HT0 := Lib.hid (show TSt w ((w.alloc O).alloc (Obj.cells #[.int .i64 LO, .int .i64 HH] 24)) O (Obj.cells #[.int .i64 LO, .int .i64 HH] 24) from ⟨HW0.out.alloc _, ⟨(HW0.out.alloc _).b, Nat.le_succ _, heap_new1 w O _⟩⟩)
    clear c0 c1 c2 c3 c4 c5 d1 d2
    go_loopw [5, 8] (fun out nn wr => ∃ n : Int, (LO ≤ n ∧ n ≤ HH + 1) ∧ nn = .int .i64 n ∧ Hid (SetsAt wr w.heap.size out ((rangeL LO (n - 1)).flatMap (fun a => setsFrom M (first ++ [a])))) ∧ Hid (TSt w wr O (Obj.cells #[.int .i64 LO, .int .i64 HH] 24))) (fun _ nn _ => (HH + 1 - intOf nn).toNat)
    case atStart => exact ⟨LO, by omega, rfl, Lib.hid (by rw [range_none]; exact SetsAt.nil _ _), HT0⟩
    case round =>
      obtain ⟨n, hn, rfl, hlists, hst⟩ := hrel
      obtain ⟨c0, c1, c2, c3, c4, c5⟩ := mst_cells hst.out.m.blk HO.out
      obtain ⟨s0, s1⟩ := cells2S hst.out.s.blk
      obtain ⟨vs, l1, l2, l3⟩ := hlists.out
      obtain ⟨oA, oc, rfl, _⟩ := own_form l2
      obtain ⟨P, hP⟩ : ∃ P, (rangeL LO (n - 1)).flatMap (fun a => setsFrom M (first ++ [a])) = P := ⟨_, rfl⟩
      have HP := Lib.hid hP
      have h6 : 1000 ^ m ≤ 1000000 := Nat.pow_le_pow_right (n := 1000) (by omega) (show m ≤ 2 by have := HL.out; have := hV.nl; omega)
      have hln : P.length ≤ 21000000000 := by
        rw [← hP]
        refine Nat.le_trans (flat_le _ 21000000 _ (fun a _ => Nat.le_trans (setsFrom_len hV m (first ++ [a]) (by simp; have := HL.out; omega)) (by omega))) ?_
        rw [range_len]
        omega
      have hql := setsFrom_len hV m (first ++ [n]) (by simp; have := HL.out; omega)
      obtain ⟨QL, hQL⟩ : ∃ QL, setsFrom M (first ++ [n]) = QL := ⟨_, rfl⟩
      rw [hQL] at hql
      have HQL := Lib.hid hQL
      rw [hP] at l1 l2 l3
      obtain ⟨ln, hlnn⟩ : ∃ ln, P.length = ln := ⟨_, rfl⟩
      rw [hP, hlnn] at hlists ⊢
      rw [hlnn] at l2 hln
      have HLN := Lib.hid hlnn
      have L1 := Lib.hid l1
      have L2 := Lib.hid l2
      have L3 := Lib.hid l3
      clear l1 l2 l3 hlnn hP hlists hQL
      have hwr : w.heap.size + 1 < wr.heap.size := heap_lt hst.out.s.blk
      by_cases hlt : n ≤ HH
      · have HFW := Lib.hid (HU.out.below hst.out.m.b)
        have hfn : first.length ≤ 3 := by have := hV.nl; omega
        have HMADE := Lib.hid (show ((wr.alloc (.cells #[.int .i64 n] 3)).alloc (.cells #[] 3)).drew.ownsRow wr.heap.size 3 1 (.slice (some ⟨wr.heap.size + 1, 0, none⟩) 0 0) 0 [] from by
          have h := World.ownsRow_made (base := wr.heap.size) (e := 3) (size := 1) (wr.alloc (.cells #[.int .i64 n] 3)) #[] 0 (by simp) (by unfold maxLen; omega) rfl
          rw [World.size_alloc] at h
          exact h)
        have CB := Lib.hid (show ((wr.alloc (.cells #[] 3)).alloc (.cells #[.int .i64 n] 3)).drew.cell? ⟨wr.heap.size + 1, 0, none⟩ = some (.int .i64 n) from by
          have h := cells_of (i := 0) (heap_new (wr.alloc (.cells #[] 3)) (.cells #[.int .i64 n] 3)) rfl
          rw [World.size_alloc] at h
          exact h)
        have CC := Lib.hid (show ((wr.alloc (.cells #[.int .i64 n] 3)).alloc (.cells #[] 3)).drew.cell? ⟨wr.heap.size, 0, none⟩ = some (.int .i64 n) from
          cell_alloc (cells_of (i := 0) (heap_new wr (.cells #[.int .i64 n] 3)) rfl) (by simp))
        go_wp2_with fail
        go_region_held3 (fun w' => w'.cell? ⟨w.heap.size, 0, none⟩ = some (.slice (some ⟨b, off, none⟩) M.levers.length cap) ∧ w'.cell? ⟨w.heap.size, 1, none⟩ = some (.int .i64 M.water) ∧ w'.cell? ⟨w.heap.size, 2, none⟩ = some (.int .i64 M.lkLo) ∧ w'.cell? ⟨w.heap.size, 3, none⟩ = some (.int .i64 M.lkHi) ∧ w'.cell? ⟨w.heap.size, 4, none⟩ = some (.slice a2 M.bals.length cap2) ∧ w'.cell? ⟨w.heap.size, 5, none⟩ = some (.int .i64 M.wrong))
          (first
            | exact mst_cells hst.out.m.blk HO.out
            | exact mst_cells (hst.out.m.alloc _).blk HO.out
            | exact mst_cells ((hst.out.m.alloc _).alloc _).blk HO.out
            | exact mst_cells st2.m.blk HO.out
            | exact mst_cells (st2.m.alloc _).blk HO.out
            | exact mst_cells st3.m.blk HO.out
            | exact mst_cells st4.m.blk HO.out
            | exact mst_cells st5.m.blk HO.out)
          (first
            | ((refine step_onto (base := wr.heap.size) (v := .slice (some ⟨wr.heap.size, 0, none⟩) 0 0) (n := 0) (xs := []) (A := uA) (m := first.length) (c := uc) (news := first.map (Value.int .i64)) (by rfl) (.tmp 49) (.tmp 50) (by rfl) Try.underlying28 hi hz0 hz1 hz2 rfl (by decide) (by rfl) (World.ownsRow_made wr #[] 0 (Nat.le_refl _) (by unfold maxLen; omega) rfl) (by rfl) (from_own (HFW.out.below (((Below.refl _ wr).alloc (Nat.le_refl _) _).drew))) (map_one _) (by unfold maxLen; omega) (by omega) (by simp <;> omega) ?_; intro hA hcap w2 hown2 hgrow2 hat2; rw [Nat.zero_add, List.nil_append] at hown2; have hb2 := below_grown (w := wr) (((Below.refl _ wr).alloc (Nat.le_refl _) _).drew) hgrow2 (by intro b e; simp [Value.ownBlock] at e; omega); have st2 := hst.out.next hb2; have hz2w := hb2.size; simp only [Nat.zero_add]))
            | ((refine step_onto (base := wr.heap.size) (v := .slice (some ⟨wr.heap.size, 0, none⟩) 0 0) (n := 0) (xs := []) (A := uA) (m := first.length) (c := uc) (news := first.map (Value.int .i64)) (by rfl) (.tmp 49) (.tmp 50) (by rfl) Try.underlying28 hi hz0 hz1 hz2 rfl (by decide) (by rfl) ((World.ownsRow_made wr #[] 0 (Nat.le_refl _) (by unfold maxLen; omega) rfl).alloc _) (by rfl) (from_own (HFW.out.below ((((Below.refl _ wr).alloc (Nat.le_refl _) _).alloc (by simp) _).drew))) (map_one _) (by unfold maxLen; omega) (by omega) (by simp <;> omega) ?_; intro hA hcap w2 hown2 hgrow2 hat2; rw [Nat.zero_add, List.nil_append] at hown2; have hb2 := below_grown (w := wr) ((((Below.refl _ wr).alloc (Nat.le_refl _) _).alloc (by simp) _).drew) hgrow2 (by intro b e; simp [Value.ownBlock] at e; omega); have st2 := hst.out.next hb2; have hz2w := hb2.size; simp only [Nat.zero_add]))
            | ((refine step_onto (base := wr.heap.size) (v := .slice (some ⟨wr.heap.size + 1, 0, none⟩) 0 0) (n := 0) (xs := []) (A := uA) (m := first.length) (c := uc) (news := first.map (Value.int .i64)) (by rfl) (.tmp 49) (.tmp 50) (by rfl) Try.underlying28 hi hz0 hz1 hz2 rfl (by decide) (by rfl) HMADE.out (by rfl) (from_own (HFW.out.below ((((Below.refl _ wr).alloc (Nat.le_refl _) _).alloc (by simp) _).drew))) (map_one _) (by unfold maxLen; omega) (by omega) (by simp <;> omega) ?_; intro hA hcap w2 hown2 hgrow2 hat2; rw [Nat.zero_add, List.nil_append] at hown2; have hb2 := below_grown (w := wr) ((((Below.refl _ wr).alloc (Nat.le_refl _) _).alloc (by simp) _).drew) hgrow2 (by intro b e; simp [Value.ownBlock] at e; omega); have st2 := hst.out.next hb2; have hz2w := hb2.size; simp only [Nat.zero_add]))
            | ((refine step_onto (base := wr.heap.size) (v := .slice hA first.length hcap) (n := first.length) (xs := first.map (Value.int .i64)) (A := some ⟨w2.heap.size, 0, none⟩) (m := 1) (c := 1) (news := [.int .i64 n]) (by rfl) (.tmp 51) (.tmp 53) (by rfl) Try.underlying28 hi hz0 hz1 hz2 rfl (by decide) (by rfl) (hown2.alloc _) (by rfl) (from_oneN w2 _ _) (by simp [Value.oneCell']) (by unfold maxLen; omega) (by omega) (by first | omega | (simp; omega)) ?_; intro nA ncap w3 hown3 hgrow3 hat3; have hb3 := below_grown (w := wr) (hb2.alloc hb2.size _) hgrow3 (fun b e => (hown2.lt b e).1); have st3 := hst.out.next hb3; have HN := Lib.hid (int_row hown3); have HB3 := Lib.hid hb3; clear hown2 hgrow2 hat2 hown3 hgrow3 hat3))
            | ((refine step_onto (base := wr.heap.size) (v := .slice hA first.length hcap) (n := first.length) (xs := first.map (Value.int .i64)) (A := some ⟨wr.heap.size + 1, 0, none⟩) (m := 1) (c := 1) (news := [.int .i64 n]) (by rfl) (.tmp 51) (.tmp 53) (by rfl) Try.underlying28 hi hz0 hz1 hz2 rfl (by decide) (by rfl) hown2 (by rfl) ⟨rfl, fun _ => ⟨_, rfl, one_at (cell_grown CB.out (by simp) hgrow2 (by simp [Value.ownBlock]))⟩⟩ (by simp [Value.oneCell']) (by unfold maxLen; omega) (by omega) (by first | omega | (simp; omega)) ?_; intro nA ncap w3 hown3 hgrow3 hat3; have hb3 := below_grown (w := wr) hb2 hgrow3 (fun b e => (hown2.lt b e).1); have st3 := hst.out.next hb3; have HN := Lib.hid (int_row hown3); have HB3 := Lib.hid hb3; clear hown2 hgrow2 hat2 hown3 hgrow3 hat3))
            | ((refine step_onto (base := wr.heap.size) (v := .slice hA first.length hcap) (n := first.length) (xs := first.map (Value.int .i64)) (A := some ⟨wr.heap.size, 0, none⟩) (m := 1) (c := 1) (news := [.int .i64 n]) (by rfl) (.tmp 51) (.tmp 53) (by rfl) Try.underlying28 hi hz0 hz1 hz2 rfl (by decide) (by rfl) hown2 (by rfl) ⟨rfl, fun _ => ⟨_, rfl, one_at (cell_grown CC.out (by simp <;> omega) hgrow2 (by simp [Value.ownBlock]))⟩⟩ (by simp [Value.oneCell']) (by unfold maxLen; omega) (by omega) (by first | omega | (simp; omega)) ?_; intro nA ncap w3 hown3 hgrow3 hat3; have hb3 := below_grown (w := wr) hb2 hgrow3 (fun b e => (hown2.lt b e).1); have st3 := hst.out.next hb3; have HN := Lib.hid (int_row hown3); have HB3 := Lib.hid hb3; clear hown2 hgrow2 hat2 hown3 hgrow3 hat3))
            | (go_at_call 72; refine (HIH.out (first ++ [n]) (by simp; have := HL.out; omega) _ _ _ (HX.out _ st3.m.b) HN.out).mono ?_; rintro e w4 ⟨u, rfl, hsu, hb4⟩; rw [HQL.out] at hsu; obtain ⟨ws, m1, m2, m3⟩ := hsu; obtain ⟨xA, ucap, rfl, _⟩ := own_form m2; have st4 := st3.next hb4; have HB4 := Lib.hid (HB3.out.trans (hb4.mono HB3.out.size)); have M1 := Lib.hid m1; have M2 := Lib.hid m2; have M3 := Lib.hid m3; clear m1 m2 m3 hb4)
            | ((refine step_onto (base := w.heap.size) (v := .slice oA ln oc) (n := ln) (xs := setC vs P) (A := xA) (m := QL.length) (c := ucap) (news := setC ws QL) (by rfl) (.tmp 47) (.tmp 55) (by rfl) Try.underlying101 hiS hy0 hy1 hy2 rfl (by decide) (by rfl) (own_below L2.out HB4.out) (by rfl) (from_own M2.out) (sets_one M1.out M3.out) (by unfold maxLen; omega) (by omega) (by have := hst.out.m.b.size; have := HB4.out.size; omega) ?_; intro qA qcap w5 hown5 hgrow5 hat5; have HL5 := Lib.hid (SetsAt.append L1.out (by rw [HLN.out]; exact own_below L2.out HB4.out) (fun i hi => by obtain ⟨v, h4, h5⟩ := L3.out i hi; exact ⟨v, h4, h5.below HB4.out⟩) M1.out M3.out hgrow5 (by rw [HLN.out]; exact hown5)); have st5 := st4.grown hgrow5 (fun j e => (L2.out.lt j e).1) (own_ne_type (own_below L2.out HB4.out) (st4.m.blk.trans (congrArg some HO.out)) (by decide)) (own_ne_type (own_below L2.out HB4.out) st4.s.blk (by decide)); clear hown5 hgrow5 hat5)))
        all_goals
          have HST5 := Lib.hid st5
          clear st5 st4 st3 st2
          have HPQ := Lib.hid (show (rangeL LO (n + 1 - 1)).flatMap (fun a => setsFrom M (first ++ [a])) = P ++ QL by rw [show n + 1 - 1 = n by omega, range_snocS (by omega), List.flatMap_append, HP.out, List.flatMap_cons, List.flatMap_nil, List.append_nil, HQL.out])
          go_wp2
          exact ⟨⟨n + 1, by omega, by go_num, Lib.hid (by rw [HPQ.out]; exact HL5.out), HST5⟩, by simp [intOf]; omega⟩
      · obtain rfl : n = HH + 1 := by omega
        go_wp2
        go_ret
        refine ⟨_, rfl, ?_, hst.out.m.b⟩
        have e : HH + 1 - 1 = HH := by omega
        rw [HD.out, ← e, HP.out]
        exact ⟨vs, L1.out, by rw [HLN.out]; exact L2.out, L3.out⟩
end Go.Proofs.Ytomcjopcfdllgaa
