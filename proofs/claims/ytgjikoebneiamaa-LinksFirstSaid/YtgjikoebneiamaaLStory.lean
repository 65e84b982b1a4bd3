/-
  Links, the law's reference: the cables before the first deed and after each one.
-/
import Derived.Test.YtgjikoebneiamaaLRows
import Derived.Test.YtgjikoebneiamaaLRef1

namespace Go.Proofs.Ytgjikoebneiamaa
open Go.RowKit Go.Shelf

/-- The cables before the first deed and after each of the first k. -/
def storiesTo (ds : List Deed) (ends : List Int) (k : Nat) : List (List Int) := (List.range (k + 1)).map (story ds ends)
theorem storiesTo_len (ds : List Deed) (ends : List Int) (k : Nat) : (storiesTo ds ends k).length = k + 1 := by simp [storiesTo]
theorem storiesTo_snoc (ds : List Deed) (ends : List Int) (k : Nat) : storiesTo ds ends (k + 1) = storiesTo ds ends k ++ [story ds ends (k + 1)] := by simp [storiesTo, List.range_succ]
theorem storiesTo_nth (ds : List Deed) (ends : List Int) {k i : Nat} (h : i ≤ k) : xnth (storiesTo ds ends k) i = story ds ends i := by
  rw [xnth_lt (by rw [storiesTo_len]; omega)]; simp [storiesTo]

theorem OwnInts.cases {w : World} {A : Option Addr} {n c : Nat} {xs : List Int} (h : OwnInts w (.slice A n c) xs) : (A = none ∧ n = 0 ∧ c = 0) ∨ ∃ g, A = some ⟨g, 0, none⟩ ∧ n ≤ c ∧ c ≤ maxLen := by
  rcases h.2 with ⟨e, h0⟩ | ⟨g, cap, cur, e, _, _, h1, h2, _⟩
  · injection e with e1 e2 e3
    exact .inl ⟨e1, e2, e3⟩
  · injection e with e1 e2 e3
    exact .inr ⟨g, e1, by omega, by omega⟩

theorem new_weld {w : World} {base M p c : Nat} {A : Option Addr} {xs : List Int} {link : Int} (hM : xs.length = M) (hp : p ≤ M)
    (h : w.ownsRow base 3 1 (.slice A (p + 1 + (M - p)) c) (p + 1 + (M - p)) ((xs.take p).map (Value.int .i64) ++ [.int .i64 link] ++ (xs.drop p).map (Value.int .i64))) : OwnInts w (.slice A (p + 1 + (M - p)) c) (xs.take p ++ link :: xs.drop p) := by
  unfold OwnInts
  rw [show (xs.take p ++ link :: xs.drop p).length = p + 1 + (M - p) by simp; omega]
  have e : (xs.take p ++ link :: xs.drop p).map (Value.int .i64) = (xs.take p).map (Value.int .i64) ++ [.int .i64 link] ++ (xs.drop p).map (Value.int .i64) := by simp
  rw [e]
  exact own_grow0 (W := w) h (Nat.zero_le _)
theorem new_cut {w : World} {base M p c : Nat} {A : Option Addr} {xs : List Int} (hM : xs.length = M) (hp : p < M)
    (h : w.ownsRow base 3 1 (.slice A (p + (M - (p + 1))) c) (p + (M - (p + 1))) ((xs.take p).map (Value.int .i64) ++ (xs.drop (p + 1)).map (Value.int .i64))) : OwnInts w (.slice A (p + (M - (p + 1))) c) (xs.take p ++ xs.drop (p + 1)) := by
  unfold OwnInts
  rw [show (xs.take p ++ xs.drop (p + 1)).length = p + (M - (p + 1)) by simp; omega, List.map_append]
  exact own_grow0 (W := w) h (Nat.zero_le _)
theorem one_row {w : World} {v : Value} {xs : List Int} (h : OwnInts w v xs) : v.oneCell' = true := own_one h
/-- One cable more in the list of them. -/
theorem story_next {W W4 w5 : World} {base k : Nat} {u q v : Value} {ds : List Deed} {ends : List Int} {vs : List Value} {o : Obj} (hk : vs.length = k + 1) (l2 : W.ownsRow base 33 1 u (k + 1) vs)
    (l3 : ∀ i, i < k + 1 → ∃ v, vs[i]? = some v ∧ OwnInts W v (xnth (storiesTo ds ends k) i)) (hb : Below W.heap.size W W4) (hv : OwnInts W4 v (story ds ends (k + 1)))
    (hg : (W4.alloc o).grownBy w5 u.ownBlock) (hq : w5.ownsRow base 33 1 q (k + 1 + 1) (vs ++ [v])) : ListsAt w5 base q (storiesTo ds ends (k + 1)) ∧ OwnInts w5 v (story ds ends (k + 1)) := by
  have hb' := hb.alloc hb.size o
  rw [storiesTo_snoc]
  exact ListsAt.snoc (w := W4.alloc o) (by rw [storiesTo_len]; exact hk) (by rw [storiesTo_len]; exact own_below l2 hb') (fun i hi => by
    rw [storiesTo_len] at hi
    obtain ⟨v, h4, h5⟩ := l3 i hi
    exact ⟨v, h4, h5.below hb'⟩) (hv.below ((Below.refl _ _).alloc (Nat.le_refl _) _)) hg (by rw [storiesTo_len]; exact hq)

set_option maxRecDepth 100000 in
set_option maxHeartbeats 8000000 in
theorem Story_any (v u : Value) (C : Chain) (ends : List Int) (w : World) (hV : validB C = true) (hl : ends.length = C.deeds.length) (hx : ChainAt w.heap.size w v C) (hu : IntsAt w.heap.size w u ends) :
    Calls Try.prog 96 #[v, u] w fun e w' => ∃ q, e = .returned q ∧ ListsAt w' w.heap.size q (storiesTo C.deeds ends C.deeds.length) ∧ Below w.heap.size w w' := by
  have hx' := hx
  have hV' := valid_iff.1 hV
  have hnd := hV'.nd
  obtain ⟨i0, hi, hz0, hz1, hz2⟩ := info_parts Try_infoInt
  obtain ⟨iI, hiI, hzI0, hzI1, hzI2⟩ := info_parts Try_infoInts
  obtain ⟨a, cap, b, off, a2, cap2, b2, off2, rfl, hm, hm2, hcap, hcapm, HA, HC, HA2, HC2, HI, HI2⟩ := hx.opened
  obtain ⟨ua, ucap, ub, uoff, rfl, hum, HUA, HUC, HUI⟩ := hu.opened
  have HS0 := Lib.hid (LStat.first hx')
  obtain ⟨c0, c1, c2⟩ := HS0.out.cells
  have HL := Lib.hid hl
  have HV := Lib.hid hV'
  rw [hl] at *
  clear hx hx' HA2 HC2 HI HI2 hu hV hV' hl
  go_enter Try.func96, Try.ntmps96
  go_wp2
  go_loopw [5, 6, 7, 8] (fun now out link i wr => ∃ k : Nat, k ≤ C.deeds.length ∧ i = .int .i64 k ∧ link = .int .i64 (weldsTo C.deeds k) ∧ Hid (ListsAt wr (w.heap.size + 1) out (storiesTo C.deeds ends k)) ∧ Hid (OwnInts wr now (story C.deeds ends k)) ∧ Hid (Below (w.heap.size + 1) (w.alloc (.cells #[.slice a C.deeds.length cap, .slice a2 C.sights.length cap2, .int .i64 C.wrong] 25)) wr)) (fun _ _ _ i _ => C.deeds.length - (intOf i).toNat)
  case atStart =>
    refine ⟨0, Nat.zero_le _, rfl, rfl, ⟨[.slice none 0 0], rfl, ⟨rfl, .inr ⟨w.heap.size + 1, 1, #[.slice none 0 0], rfl, Nat.le_refl _, ?_, by simp [storiesTo], by unfold maxLen; omega, rfl, rfl⟩⟩, fun i hi => ?_⟩, OwnInts.nil _, (Below.refl _ _).alloc (by simp) _⟩
    · have h := heap_new (w.alloc (.cells #[.slice a C.deeds.length cap, .slice a2 C.sights.length cap2, .int .i64 C.wrong] 25)) (.cells #[.slice none 0 0] 33)
      rw [World.size_alloc] at h
      exact h
    · obtain rfl : i = 0 := by simpa [storiesTo] using hi
      exact ⟨_, rfl, OwnInts.nil _⟩
  case round =>
    obtain ⟨k, hk, rfl, rfl, hlists, hnow, hbl⟩ := hrel
    clear c0 c1 c2
    obtain ⟨c0, c1, c2⟩ := box3 hbl.out
    have hszr := boxed_size hbl.out
    have hle := weldsTo_le C.deeds k
    obtain ⟨vs, l1, l2, l3⟩ := hlists.out
    obtain ⟨oA, ocap, rfl, _⟩ := own_form l2
    obtain ⟨nA, ncap, rfl, _⟩ := own_form hnow.out
    rw [storiesTo_len] at *
    obtain ⟨M, hM⟩ : ∃ M, (story C.deeds ends k).length = M := ⟨_, rfl⟩
    have HM := Lib.hid hM
    rw [hM] at hnow ⊢
    have hM12 : M ≤ 12 := by
      have h2 := (story_ok (ends := ends) HV.out.deed k (by omega)).1
      have := lenTo_le C.deeds k
      rw [HM.out] at h2
      omega
    by_cases hlt : k < C.deeds.length
    · obtain ⟨rfl, hb⟩ := HA.out (by omega)
      obtain ⟨rfl, hub⟩ := HUA.out (by omega)
      obtain ⟨d0, d1, d2, d3, d4⟩ := (HC.out k (by omega)).below (boxed hbl.out) hb
      have u0 := ((boxed hbl.out).cell (p := ⟨ub, uoff + k, none⟩) hub).trans (HUC.out k hlt)
      have HD := Lib.hid (deedIs (HV.out.deed k hlt))
      obtain ⟨d, hdk⟩ : ∃ d, dnth C.deeds k = d := ⟨_, rfl⟩
      have HDK := Lib.hid hdk
      rw [hdk] at d0 d1 d2 d3 d4 HD
      clear hdk
      obtain ⟨dw, dat, dfr, dba, dsm⟩ := d
      by_cases h3 : dw = 3
      · have h1 : ¬ dw = 1 := by omega
        have h2 : ¬ dw = 2 := by omega
        have hw3 : (dw == 3) = true := by simp [h3]
        have HST := Lib.hid (show story C.deeds ends (k + 1) = (story C.deeds ends k).reverse ∧ weldsTo C.deeds (k + 1) = weldsTo C.deeds k by
          refine ⟨?_, by simp [weldsTo, HDK.out, h1]⟩
          simp only [story, stepC, HDK.out]
          rw [if_neg h1, if_neg h2, if_pos h3])
        have hw1 : (dw == 1) = false := by simp [h1]
        have hw2 : (dw == 2) = false := by simp [h2]
        clear h1 h2 h3 hM
        have L1 := Lib.hid l1
        have L2 := Lib.hid l2
        have L3 := Lib.hid l3
        have HINT := Lib.hid (hnow.out.ints (story_i64 HV.out ends (by omega)))
        clear l1 l2 l3
        go_wp2
        clear d0 d1 d2 d3 d4 u0
        obtain ⟨w0, hw0⟩ : ∃ w0, w0 = wr := ⟨_, rfl⟩
        subst hw0
        go_loopw [10, 13] (fun nx i wr => ∃ j : Nat, j ≤ M ∧ i = .int .i64 ((j : Int) - 1) ∧ Hid (wr.ownsRow w0.heap.size 3 1 nx (M - j) (((story C.deeds ends k).drop j).reverse.map (Value.int .i64))) ∧ Hid (Below w0.heap.size w0 wr)) (fun _ i _ => (intOf i + 1).toNat)
        case atStart =>
          refine ⟨M, Nat.le_refl _, by go_num, ?_, (Below.refl _ w0).alloc (Nat.le_refl _) _⟩
          show World.ownsRow _ _ _ _ _ _ _
          rw [Nat.sub_self, List.drop_of_length_le (by rw [HM.out]; omega)]
          exact World.ownsRow_nil _ _ _ _
        case round =>
          obtain ⟨j, hj, rfl, hown, HB4⟩ := hrel
          obtain ⟨xA, xc, rfl, _⟩ := own_form hown.out
          have hz4 := HB4.out.size
          by_cases h0 : 0 < j
          · obtain ⟨q, rfl⟩ : ∃ q, j = q + 1 := ⟨j - 1, by omega⟩
            rw [show (((q + 1 : Nat) : Int) - 1) = (q : Int) by omega]
            obtain ⟨ga, gc, gb, go, ge, _, hga, hgcl, _⟩ := (HINT.out.below HB4.out).opened
            rw [HM.out] at ge
            injection ge with ge1 ge2 ge3
            subst ge1 ge3
            obtain ⟨rfl, hgb⟩ := hga.out (by rw [HM.out]; omega)
            have x0 := hgcl.out q (by rw [HM.out]; omega)
            have e1 : (q : Int) < (M : Int) := by omega
            have HX := Lib.hid (show ((story C.deeds ends k).drop q).reverse.map (Value.int .i64) = ((story C.deeds ends k).drop (q + 1)).reverse.map (Value.int .i64) ++ [.int .i64 (nth (story C.deeds ends k) q)] by
              rw [List.drop_eq_getElem_cons (by rw [HM.out]; omega : q < (story C.deeds ends k).length), nth_lt (by rw [HM.out]; omega), List.reverse_cons, List.map_append]; rfl)
            clear hga hgcl
            go_wp2_with (at_builtin; refine wpList_append_own _ rfl (.tmp 86) (.tmp 91) 33 rfl w0.heap.size 3 i0 (.int .i64 0) 1 8 Try.underlying33 hi hz0 hz1 hz2 rfl (by decide) (.slice xA (M - (q + 1)) xc) (M - (q + 1)) _ rfl (hown.out.alloc _) ⟨wr.heap.size, 0, none⟩ 1 1 [.int .i64 (nth (story C.deeds ends k) q)] rfl rfl ?b1 ?b2 ?b3 ?b4 ?b5 ?_)
            case b2 => first | rfl | simp [Value.oneCell']
            case b3 => unfold maxLen; omega
            case b4 => omega
            case b5 => first | omega | (simp; omega)
            intro v' w5 hown' hgrow _
            have HO := Lib.hid hown'
            have HF := Lib.hid ((HB4.out.alloc hz4 _).grown hgrow (by simp; omega) (fun j e => (hown.out.lt j e).1))
            clear hown' hgrow
            go_wp2
            exact ⟨⟨q, by omega, by go_num, by rw [HX.out, show M - q = M - (q + 1) + 1 by omega]; have h := HO.out; simp only [List.map_reverse, List.map_drop] at h ⊢; exact h, HF⟩, by simp [intOf] <;> omega⟩
          · obtain rfl : j = 0 := by omega
            rw [show (((0 : Nat) : Int) - 1) = (-1 : Int) from rfl]
            have HNEW := Lib.hid (show OwnInts wr (.slice xA (M - 0) xc) (story C.deeds ends (k + 1)) from by
              have h := hown.out
              rw [List.drop_zero] at h
              unfold OwnInts
              rw [HST.out.1, List.length_reverse, HM.out]
              exact own_grow0 (W := wr) h (Nat.zero_le _))
            have hz4 := HB4.out.size
            go_wp2_with (at_builtin; (refine wpList_append_own _ rfl (.tmp 94) (.tmp 96) 88 rfl (w.heap.size + 1) 33 iI (.slice none 0 0) 1 24 Try.underlying88 hiI hzI0 hzI1 hzI2 rfl (by decide) (.slice oA (k + 1) ocap) (k + 1) vs rfl ((own_below L2.out HB4.out).alloc _) ⟨wr.heap.size, 0, none⟩ 1 1 [.slice xA (M - 0) xc] rfl rfl ?c1 ?c2 ?c3 ?c4 ?c5 ?_))
            case c1 => exact cell_one_new _ _ _
            case c2 => first | rfl | (intro u hu; simp at hu; subst hu; rfl)
            case c3 => unfold maxLen; omega
            case c4 => omega
            case c5 => first | omega | (simp; omega)
            intro v' w5 hown' hgrow _
            obtain ⟨hL5, hN5⟩ := story_next L1.out L2.out L3.out HB4.out HNEW.out hgrow hown'
            have HL5 := Lib.hid hL5
            have HN5 := Lib.hid hN5
            have HF := Lib.hid (((hbl.out.trans (HB4.out.mono hszr)).alloc (by omega) _).grown hgrow (by simp; omega) (fun j e => ((own_below L2.out HB4.out).lt j e).1))
            clear hown' hgrow hL5 hN5
            go_wp2
            exact ⟨⟨k + 1, by omega, by go_num, by rw [HST.out.2], HL5, HN5, HF⟩, by simp [intOf]; omega⟩
      by_cases h1 : dw = 1
      · have hw1 : (dw == 1) = true := by simp [h1]
        obtain ⟨p, hp, hpM, HQ⟩ : ∃ p : Nat, fromHead dat (nth ends k) ((M : Int) + 1) = p ∧ p ≤ M ∧ Hid (∀ W, Calls Try.prog 118 #[.int .i64 dat, .int .i64 (nth ends k), .int .i64 ((M : Int) + 1)] W fun e w' => e = .returned (.int .i64 p) ∧ w' = W) := by
          have hs := story_ok (ends := ends) HV.out.deed k (by omega)
          have hb : 0 ≤ dat ∧ dat ≤ M := by
            cases HD.out with
            | weld _ a0 a1 => exact ⟨a0, by have h2 := hs.1; have h3 : dat ≤ lenTo C.deeds k := a1; rw [HM.out] at h2; omega⟩
            | cut h => have h2 : dw = 2 := h; omega
            | turn h => have h2 : dw = 3 := h; omega
            | prove h => have h2 : dw = 4 := h; omega
          have hf := fromHead_lt (a := dat) (f := nth ends k) (n := (M : Int) + 1) hb.1 (by omega)
          refine ⟨(fromHead dat (nth ends k) ((M : Int) + 1)).toNat, by omega, by omega, fun W => ?_⟩
          rw [show (((fromHead dat (nth ends k) ((M : Int) + 1)).toNat : Nat) : Int) = fromHead dat (nth ends k) ((M : Int) + 1) by omega]
          exact (place_any dat (nth ends k) ((M : Int) + 1) W (by unfold I64; omega) (by omega) (by omega)).mono (by rintro e w' ⟨rfl, rfl⟩; exact ⟨rfl, rfl⟩)
        have HST := Lib.hid (show story C.deeds ends (k + 1) = (story C.deeds ends k).take p ++ (weldsTo C.deeds k : Int) :: (story C.deeds ends k).drop p ∧ weldsTo C.deeds (k + 1) = weldsTo C.deeds k + 1 by
          refine ⟨?_, by simp [weldsTo, HDK.out, h1]⟩
          simp only [story, stepC, HDK.out]
          rw [if_pos h1, HM.out, hp, Int.toNat_natCast])
        clear h1 h3 hM hp
        have u1 : (wr.alloc (.cells #[.int .i64 dw, .int .i64 dat, .int .i64 dfr, .int .i64 dba, .int .i64 dsm] 55)).cell? ⟨ub, uoff + k, none⟩ = some (.int .i64 (nth ends k)) := cell_alloc u0 (by omega)
        go_wp2
        go_quiet ((go_at_call 118; with_reducible exact Calls.quiet_of_same (HQ.out _)))
        go_wp2
        obtain ⟨w1, hw1'⟩ : ∃ w1, w1 = (wr.alloc (.cells #[.int .i64 dw, .int .i64 dat, .int .i64 dfr, .int .i64 dba, .int .i64 dsm] 55)).drewN nq := ⟨_, rfl⟩
        rw [← hw1']
        have HB1 := Lib.hid (show Below wr.heap.size wr w1 from hw1' ▸ drewN_below ((Below.refl _ wr).alloc (Nat.le_refl _) _) _)
        clear hw1'
        have hn1 := hnow.out.below HB1.out
        rcases hn1.cases with ⟨rfl, hM0, rfl⟩ | ⟨g, rfl, hgc, hgm⟩
        · obtain rfl : M = 0 := hM0
          obtain rfl : p = 0 := by omega
          have L1 := Lib.hid l1
          have L2 := Lib.hid l2
          have L3 := Lib.hid l3
          clear hn1 u0 u1 d0 d1 d2 d3 d4 c0 c1 c2 l1 l2 l3
          have HT := Lib.hid (fun (W : World) => show CellsFrom W none 0 1 (((story C.deeds ends k).take 0).map (Value.int .i64)) from ⟨by simp, fun h => by omega⟩)
          have HDR := Lib.hid (fun (W : World) => show CellsFrom W none 0 1 (((story C.deeds ends k).drop 0).map (Value.int .i64)) from ⟨by simp [HM.out], fun h => by omega⟩)
          have CB := Lib.hid (show ((w1.alloc (.cells #[.int .i64 (weldsTo C.deeds k : Int)] 3)).drew).cell? ⟨w1.heap.size, 0, none⟩ = some (.int .i64 (weldsTo C.deeds k : Int)) from cells_of (i := 0) (heap_new w1 (.cells #[.int .i64 (weldsTo C.deeds k : Int)] 3)) rfl)
          go_region_held3 (fun w' => True) (trivial)
            (first
              | ((refine step_onto (base := w1.heap.size) (v := .slice none 0 0) (n := 0) (xs := []) (A := none) (m := 0) (c := 0) (news := ((story C.deeds ends k).take 0).map (Value.int .i64)) (by rfl) (.tmp 42) (.tmp 45) (by rfl) Try.underlying33 hi hz0 hz1 hz2 rfl (by decide) (by rfl) (World.ownsRow_nil _ _ _ _) (by rfl) (HT.out _) (map_one _) (by unfold maxLen; omega) (by omega) (by simp) ?_; intro A2 cc2 w2 hown2 hgrow2 hat2; rw [Nat.zero_add, List.nil_append] at hown2; have hb2 := below_grown (w := w1) (Below.refl _ w1).drew hgrow2 (by intro b e; simp [Value.ownBlock] at e); have hz2w := hb2.size; simp only [Nat.zero_add]))
              | ((refine step_onto (base := w1.heap.size) (v := .slice none 0 0) (n := 0) (xs := []) (A := none) (m := 0) (c := 0) (news := ((story C.deeds ends k).take 0).map (Value.int .i64)) (by rfl) (.tmp 42) (.tmp 45) (by rfl) Try.underlying33 hi hz0 hz1 hz2 rfl (by decide) (by rfl) (World.ownsRow_nil _ _ _ _) (by rfl) (HT.out _) (map_one _) (by unfold maxLen; omega) (by omega) (by simp) ?_; intro A2 cc2 w2 hown2 hgrow2 hat2; rw [Nat.zero_add, List.nil_append] at hown2; have hb2 := below_grown (w := w1) ((Below.refl _ w1).alloc (Nat.le_refl _) _).drew hgrow2 (by intro b e; simp [Value.ownBlock] at e); have hz2w := hb2.size; simp only [Nat.zero_add]))
              | ((refine step_onto (base := w1.heap.size) (v := .slice A2 0 cc2) (n := 0) (xs := ((story C.deeds ends k).take 0).map (Value.int .i64)) (A := some ⟨w2.heap.size, 0, none⟩) (m := 1) (c := 1) (news := [Value.int .i64 (weldsTo C.deeds k : Int)]) (by rfl) (.tmp 46) (.tmp 48) (by rfl) Try.underlying33 hi hz0 hz1 hz2 rfl (by decide) (by rfl) (hown2.alloc _) (by rfl) ⟨rfl, fun _ => ⟨_, rfl, cell_one_new w2 _ _⟩⟩ (by simp [Value.oneCell']) (by unfold maxLen; omega) (by omega) (by first | omega | (simp; omega)) ?_; intro A3 cc3 w3 hown3 hgrow3 hat3; have hb3 := below_grown (w := w1) (hb2.alloc hb2.size _) hgrow3 (fun b e => (hown2.lt b e).1)))
              | ((refine step_onto (base := w1.heap.size) (v := .slice A2 0 cc2) (n := 0) (xs := ((story C.deeds ends k).take 0).map (Value.int .i64)) (A := some ⟨w1.heap.size, 0, none⟩) (m := 1) (c := 1) (news := [Value.int .i64 (weldsTo C.deeds k : Int)]) (by rfl) (.tmp 46) (.tmp 48) (by rfl) Try.underlying33 hi hz0 hz1 hz2 rfl (by decide) (by rfl) hown2 (by rfl) ⟨rfl, fun _ => ⟨_, rfl, one_at (cell_grown CB.out (by simp) hgrow2 (by simp [Value.ownBlock]))⟩⟩ (by simp [Value.oneCell']) (by unfold maxLen; omega) (by omega) (by first | omega | (simp; omega)) ?_; intro A3 cc3 w3 hown3 hgrow3 hat3; have hb3 := below_grown (w := w1) hb2 hgrow3 (fun b e => (hown2.lt b e).1)))
              | ((refine step_onto (base := w1.heap.size) (v := .slice A3 (0 + 1) cc3) (n := 0 + 1) (xs := ((story C.deeds ends k).take 0).map (Value.int .i64) ++ [Value.int .i64 (weldsTo C.deeds k : Int)]) (A := none) (m := 0) (c := 0) (news := ((story C.deeds ends k).drop 0).map (Value.int .i64)) (by rfl) (.tmp 49) (.tmp 52) (by rfl) Try.underlying33 hi hz0 hz1 hz2 rfl (by decide) (by rfl) hown3 (by rfl) (HDR.out _) (map_one _) (by unfold maxLen; omega) (by omega) hb3.size ?_; intro A4 cc4 w4 hown4 hgrow4 hat4; have hb4 := below_grown (w := w1) hb3 hgrow4 (fun b e => (hown3.lt b e).1))))
          all_goals
            have HB4 := Lib.hid (HB1.out.trans (hb4.mono HB1.out.size))
            have HNEW := Lib.hid (show OwnInts w4 (.slice A4 (0 + 1 + (0 - 0)) cc4) (story C.deeds ends (k + 1)) from HST.out.1 ▸ new_weld HM.out hpM hown4)
            clear hown2 hown3 hown4 hgrow2 hgrow3 hgrow4 hat2 hat3 hat4 hb2 hb3 hb4
            have hz4 := HB4.out.size
            go_wp2_with (at_builtin; (refine wpList_append_own _ rfl (.tmp 94) (.tmp 96) 88 rfl (w.heap.size + 1) 33 iI (.slice none 0 0) 1 24 Try.underlying88 hiI hzI0 hzI1 hzI2 rfl (by decide) (.slice oA (k + 1) ocap) (k + 1) vs rfl ((own_below L2.out HB4.out).alloc _) ⟨w4.heap.size, 0, none⟩ 1 1 [.slice A4 (0 + 1 + (0 - 0)) cc4] rfl rfl ?c1 ?c2 ?c3 ?c4 ?c5 ?_))
            case c1 => exact cell_one_new _ _ _
            case c2 => first | rfl | (intro u hu; simp at hu; subst hu; rfl)
            case c3 => unfold maxLen; omega
            case c4 => omega
            case c5 => first | omega | (simp; omega)
            intro v' w5 hown' hgrow _
            obtain ⟨hL5, hN5⟩ := story_next L1.out L2.out L3.out HB4.out HNEW.out hgrow hown'
            have HL5 := Lib.hid hL5
            have HN5 := Lib.hid hN5
            have HF := Lib.hid (((hbl.out.trans (HB4.out.mono hszr)).alloc (by omega) _).grown hgrow (by simp; omega) (fun j e => ((own_below L2.out HB4.out).lt j e).1))
            clear hown' hgrow hL5 hN5
            go_wp2
            exact ⟨⟨k + 1, by omega, by go_num, by rw [HST.out.2]; go_num, HL5, HN5, HF⟩, by simp [intOf]; omega⟩
        · have HN1 := Lib.hid hn1
          have L1 := Lib.hid l1
          have L2 := Lib.hid l2
          have L3 := Lib.hid l3
          clear hn1 u0 u1 d0 d1 d2 d3 d4 c0 c1 c2 l1 l2 l3
          have e1 : (p : Int) ≤ (M : Int) := by omega
          have e2 : (M : Int) ≤ (ncap : Int) := by omega
          have e3 : (p : Int) ≤ (ncap : Int) := by omega
          have HT := Lib.hid (fun W (hb : Below w1.heap.size w1 W) => (HN1.out.below hb).take (k := p) (by rw [HM.out]; exact hpM))
          obtain ⟨sA, hsA⟩ : ∃ sA : Addr, (if ncap = p then some (⟨g, 0, none⟩ : Addr) else some ⟨g, p, none⟩) = some sA := by by_cases h : ncap = p <;> simp [h]
          have HDR := Lib.hid (fun W (hb : Below w1.heap.size w1 W) => (HN1.out.below hb).drop (k := p) hgc (by rw [HM.out]; exact hpM) hsA)
          have CB := Lib.hid (show ((w1.alloc (.cells #[.int .i64 (weldsTo C.deeds k : Int)] 3)).drew).cell? ⟨w1.heap.size, 0, none⟩ = some (.int .i64 (weldsTo C.deeds k : Int)) from cells_of (i := 0) (heap_new w1 (.cells #[.int .i64 (weldsTo C.deeds k : Int)] 3)) rfl)
          go_region_held3 (fun w' => True) (trivial)
            (first
              | ((refine step_onto (base := w1.heap.size) (v := .slice none 0 0) (n := 0) (xs := []) (A := some ⟨g, 0, none⟩) (m := p) (c := ncap) (news := ((story C.deeds ends k).take p).map (Value.int .i64)) (by rfl) (.tmp 42) (.tmp 45) (by rfl) Try.underlying33 hi hz0 hz1 hz2 rfl (by decide) (by rfl) (World.ownsRow_nil _ _ _ _) (by rfl) (HT.out _ (Below.refl _ w1).drew) (map_one _) (by unfold maxLen; omega) (by omega) (by simp) ?_; intro A2 cc2 w2 hown2 hgrow2 hat2; rw [Nat.zero_add, List.nil_append] at hown2; have hb2 := below_grown (w := w1) (Below.refl _ w1).drew hgrow2 (by intro b e; simp [Value.ownBlock] at e); have hz2w := hb2.size; simp only [Nat.zero_add]))
              | ((refine step_onto (base := w1.heap.size) (v := .slice none 0 0) (n := 0) (xs := []) (A := some ⟨g, 0, none⟩) (m := p) (c := ncap) (news := ((story C.deeds ends k).take p).map (Value.int .i64)) (by rfl) (.tmp 42) (.tmp 45) (by rfl) Try.underlying33 hi hz0 hz1 hz2 rfl (by decide) (by rfl) (World.ownsRow_nil _ _ _ _) (by rfl) (HT.out _ ((Below.refl _ w1).alloc (Nat.le_refl _) _).drew) (map_one _) (by unfold maxLen; omega) (by omega) (by simp) ?_; intro A2 cc2 w2 hown2 hgrow2 hat2; rw [Nat.zero_add, List.nil_append] at hown2; have hb2 := below_grown (w := w1) ((Below.refl _ w1).alloc (Nat.le_refl _) _).drew hgrow2 (by intro b e; simp [Value.ownBlock] at e); have hz2w := hb2.size; simp only [Nat.zero_add]))
              | ((refine step_onto (base := w1.heap.size) (v := .slice A2 p cc2) (n := p) (xs := ((story C.deeds ends k).take p).map (Value.int .i64)) (A := some ⟨w2.heap.size, 0, none⟩) (m := 1) (c := 1) (news := [Value.int .i64 (weldsTo C.deeds k : Int)]) (by rfl) (.tmp 46) (.tmp 48) (by rfl) Try.underlying33 hi hz0 hz1 hz2 rfl (by decide) (by rfl) (hown2.alloc _) (by rfl) ⟨rfl, fun _ => ⟨_, rfl, cell_one_new w2 _ _⟩⟩ (by simp [Value.oneCell']) (by unfold maxLen; omega) (by omega) (by first | omega | (simp; omega)) ?_; intro A3 cc3 w3 hown3 hgrow3 hat3; have hb3 := below_grown (w := w1) (hb2.alloc hb2.size _) hgrow3 (fun b e => (hown2.lt b e).1)))
              | ((refine step_onto (base := w1.heap.size) (v := .slice A2 p cc2) (n := p) (xs := ((story C.deeds ends k).take p).map (Value.int .i64)) (A := some ⟨w1.heap.size, 0, none⟩) (m := 1) (c := 1) (news := [Value.int .i64 (weldsTo C.deeds k : Int)]) (by rfl) (.tmp 46) (.tmp 48) (by rfl) Try.underlying33 hi hz0 hz1 hz2 rfl (by decide) (by rfl) hown2 (by rfl) ⟨rfl, fun _ => ⟨_, rfl, one_at (cell_grown CB.out (by simp) hgrow2 (by simp [Value.ownBlock]))⟩⟩ (by simp [Value.oneCell']) (by unfold maxLen; omega) (by omega) (by first | omega | (simp; omega)) ?_; intro A3 cc3 w3 hown3 hgrow3 hat3; have hb3 := below_grown (w := w1) hb2 hgrow3 (fun b e => (hown2.lt b e).1)))
              | ((refine step_onto (base := w1.heap.size) (v := .slice A3 (p + 1) cc3) (n := p + 1) (xs := ((story C.deeds ends k).take p).map (Value.int .i64) ++ [Value.int .i64 (weldsTo C.deeds k : Int)]) (A := some sA) (m := M - p) (c := ncap - p) (news := ((story C.deeds ends k).drop p).map (Value.int .i64)) (by rfl) (.tmp 49) (.tmp 52) (by rfl) Try.underlying33 hi hz0 hz1 hz2 rfl (by decide) (by rfl) hown3 (by rfl) (HDR.out _ hb3) (map_one _) (by unfold maxLen; omega) (by omega) hb3.size ?_; intro A4 cc4 w4 hown4 hgrow4 hat4; have hb4 := below_grown (w := w1) hb3 hgrow4 (fun b e => (hown3.lt b e).1))))
          all_goals
            have HB4 := Lib.hid (HB1.out.trans (hb4.mono HB1.out.size))
            have HNEW := Lib.hid (show OwnInts w4 (.slice A4 (p + 1 + (M - p)) cc4) (story C.deeds ends (k + 1)) from HST.out.1 ▸ new_weld HM.out hpM hown4)
            clear hown2 hown3 hown4 hgrow2 hgrow3 hgrow4 hat2 hat3 hat4 hb2 hb3 hb4
            have hz4 := HB4.out.size
            go_wp2_with (at_builtin; (refine wpList_append_own _ rfl (.tmp 94) (.tmp 96) 88 rfl (w.heap.size + 1) 33 iI (.slice none 0 0) 1 24 Try.underlying88 hiI hzI0 hzI1 hzI2 rfl (by decide) (.slice oA (k + 1) ocap) (k + 1) vs rfl ((own_below L2.out HB4.out).alloc _) ⟨w4.heap.size, 0, none⟩ 1 1 [.slice A4 (p + 1 + (M - p)) cc4] rfl rfl ?c1 ?c2 ?c3 ?c4 ?c5 ?_))
            case c1 => exact cell_one_new _ _ _
            case c2 => first | rfl | (intro u hu; simp at hu; subst hu; rfl)
            case c3 => unfold maxLen; omega
            case c4 => omega
            case c5 => first | omega | (simp; omega)
            intro v' w5 hown' hgrow _
            obtain ⟨hL5, hN5⟩ := story_next L1.out L2.out L3.out HB4.out HNEW.out hgrow hown'
            have HL5 := Lib.hid hL5
            have HN5 := Lib.hid hN5
            have HF := Lib.hid (((hbl.out.trans (HB4.out.mono hszr)).alloc (by omega) _).grown hgrow (by simp; omega) (fun j e => ((own_below L2.out HB4.out).lt j e).1))
            clear hown' hgrow hL5 hN5
            go_wp2
            exact ⟨⟨k + 1, by omega, by go_num, by rw [HST.out.2]; go_num, HL5, HN5, HF⟩, by simp [intOf]; omega⟩
      by_cases h2 : dw = 2
      · have hw1 : (dw == 1) = false := by simp [h1]
        have hw2 : (dw == 2) = true := by simp [h2]
        obtain ⟨p, hp, hpM, HQ⟩ : ∃ p : Nat, fromHead dat (nth ends k) ((M : Int)) = p ∧ p < M ∧ Hid (∀ W, Calls Try.prog 118 #[.int .i64 dat, .int .i64 (nth ends k), .int .i64 ((M : Int))] W fun e w' => e = .returned (.int .i64 p) ∧ w' = W) := by
          have hs := story_ok (ends := ends) HV.out.deed k (by omega)
          have hb : 0 ≤ dat ∧ dat < M := by
            cases HD.out with
            | cut _ a0 a1 => exact ⟨a0, by have h2 := hs.1; have h3 : dat ≤ lenTo C.deeds k - 1 := a1; rw [HM.out] at h2; omega⟩
            | weld h => have h2 : dw = 1 := h; omega
            | turn h => have h2 : dw = 3 := h; omega
            | prove h => have h2 : dw = 4 := h; omega
          have hf := fromHead_lt (a := dat) (f := nth ends k) (n := (M : Int)) hb.1 (by omega)
          refine ⟨(fromHead dat (nth ends k) ((M : Int))).toNat, by omega, by omega, fun W => ?_⟩
          rw [show (((fromHead dat (nth ends k) ((M : Int))).toNat : Nat) : Int) = fromHead dat (nth ends k) ((M : Int)) by omega]
          exact (place_any dat (nth ends k) ((M : Int)) W (by unfold I64; omega) (by omega) (by omega)).mono (by rintro e w' ⟨rfl, rfl⟩; exact ⟨rfl, rfl⟩)
        have HST := Lib.hid (show story C.deeds ends (k + 1) = (story C.deeds ends k).take p ++ (story C.deeds ends k).drop (p + 1) ∧ weldsTo C.deeds (k + 1) = weldsTo C.deeds k by
          refine ⟨?_, by simp [weldsTo, HDK.out, h1]⟩
          simp only [story, stepC, HDK.out]
          rw [if_neg h1, if_pos h2, HM.out, hp, Int.toNat_natCast])
        clear h1 h2 h3 hM hp
        have u1 : (wr.alloc (.cells #[.int .i64 dw, .int .i64 dat, .int .i64 dfr, .int .i64 dba, .int .i64 dsm] 55)).cell? ⟨ub, uoff + k, none⟩ = some (.int .i64 (nth ends k)) := cell_alloc u0 (by omega)
        go_wp2
        go_quiet ((go_at_call 118; with_reducible exact Calls.quiet_of_same (HQ.out _)))
        go_wp2
        obtain ⟨w1, hw1'⟩ : ∃ w1, w1 = (wr.alloc (.cells #[.int .i64 dw, .int .i64 dat, .int .i64 dfr, .int .i64 dba, .int .i64 dsm] 55)).drewN nq := ⟨_, rfl⟩
        rw [← hw1']
        have HB1 := Lib.hid (show Below wr.heap.size wr w1 from hw1' ▸ drewN_below ((Below.refl _ wr).alloc (Nat.le_refl _) _) _)
        clear hw1'
        have hn1 := hnow.out.below HB1.out
        rcases hn1.cases with ⟨rfl, hM0, rfl⟩ | ⟨g, rfl, hgc, hgm⟩
        · omega
        have HN1 := Lib.hid hn1
        have L1 := Lib.hid l1
        have L2 := Lib.hid l2
        have L3 := Lib.hid l3
        clear hn1 u0 u1 d0 d1 d2 d3 d4 c0 c1 c2 l1 l2 l3
        have e1 : (p : Int) ≤ (M : Int) := by omega
        have e2 : (M : Int) ≤ (ncap : Int) := by omega
        have e3 : (p : Int) ≤ (ncap : Int) := by omega
        have e5 : (p : Int) + 1 ≤ (M : Int) := by omega
        have e6 : (p : Int) + 1 ≤ (ncap : Int) := by omega
        have e7 : IntKind.i64.wrap ((p : Int) + 1) = (p : Int) + 1 := by rw [IntWalk.i64_in _ (by unfold maxLen at hgm; omega)]
        have e8 : (0 : Int) ≤ (p : Int) + 1 := by omega
        have e9 : ((p : Int) + 1).toNat = p + 1 := by omega
        have HT := Lib.hid (fun W (hb : Below w1.heap.size w1 W) => (HN1.out.below hb).take (k := p) (by rw [HM.out]; omega))
        obtain ⟨sA, hsA⟩ : ∃ sA : Addr, (if ncap = p + 1 then some (⟨g, 0, none⟩ : Addr) else some ⟨g, p + 1, none⟩) = some sA := by by_cases h : ncap = p + 1 <;> simp [h]
        have HDR := Lib.hid (fun W (hb : Below w1.heap.size w1 W) => (HN1.out.below hb).drop (k := p + 1) hgc (by rw [HM.out]; omega) hsA)
        go_region_held3 (fun w' => True) (trivial)
          (first
            | ((refine step_onto (base := w1.heap.size) (v := .slice none 0 0) (n := 0) (xs := []) (A := some ⟨g, 0, none⟩) (m := p) (c := ncap) (news := ((story C.deeds ends k).take p).map (Value.int .i64)) (by rfl) (.tmp 67) (.tmp 70) (by rfl) Try.underlying33 hi hz0 hz1 hz2 rfl (by decide) (by rfl) (World.ownsRow_nil _ _ _ _) (by rfl) (HT.out _ (Below.refl _ w1).drew) (map_one _) (by unfold maxLen; omega) (by omega) (by simp) ?_; intro A2 cc2 w2 hown2 hgrow2 hat2; rw [Nat.zero_add, List.nil_append] at hown2; have hb2 := below_grown (w := w1) (Below.refl _ w1).drew hgrow2 (by intro b e; simp [Value.ownBlock] at e); have hz2w := hb2.size; simp only [Nat.zero_add]))
            | ((refine step_onto (base := w1.heap.size) (v := .slice A2 p cc2) (n := p) (xs := ((story C.deeds ends k).take p).map (Value.int .i64)) (A := some sA) (m := M - (p + 1)) (c := ncap - (p + 1)) (news := ((story C.deeds ends k).drop (p + 1)).map (Value.int .i64)) (by rfl) (.tmp 71) (.tmp 75) (by rfl) Try.underlying33 hi hz0 hz1 hz2 rfl (by decide) (by rfl) hown2 (by rfl) (HDR.out _ hb2) (map_one _) (by unfold maxLen; omega) (by omega) hb2.size ?_; intro A4 cc4 w4 hown4 hgrow4 hat4; have hb4 := below_grown (w := w1) hb2 hgrow4 (fun b e => (hown2.lt b e).1))))
        have HB4 := Lib.hid (HB1.out.trans (hb4.mono HB1.out.size))
        have HNEW := Lib.hid (show OwnInts w4 (.slice A4 (p + (M - (p + 1))) cc4) (story C.deeds ends (k + 1)) from HST.out.1 ▸ new_cut HM.out hpM hown4)
        clear hown2 hown4 hgrow2 hgrow4 hat2 hat4 hb2 hb4
        have hz4 := HB4.out.size
        go_wp2_with (at_builtin; (refine wpList_append_own _ rfl (.tmp 94) (.tmp 96) 88 rfl (w.heap.size + 1) 33 iI (.slice none 0 0) 1 24 Try.underlying88 hiI hzI0 hzI1 hzI2 rfl (by decide) (.slice oA (k + 1) ocap) (k + 1) vs rfl ((own_below L2.out HB4.out).alloc _) ⟨w4.heap.size, 0, none⟩ 1 1 [.slice A4 (p + (M - (p + 1))) cc4] rfl rfl ?c1 ?c2 ?c3 ?c4 ?c5 ?_))
        case c1 => exact cell_one_new _ _ _
        case c2 => first | rfl | (intro u hu; simp at hu; subst hu; rfl)
        case c3 => unfold maxLen; omega
        case c4 => omega
        case c5 => first | omega | (simp; omega)
        intro v' w5 hown' hgrow _
        obtain ⟨hL5, hN5⟩ := story_next L1.out L2.out L3.out HB4.out HNEW.out hgrow hown'
        have HL5 := Lib.hid hL5
        have HN5 := Lib.hid hN5
        have HF := Lib.hid (((hbl.out.trans (HB4.out.mono hszr)).alloc (by omega) _).grown hgrow (by simp; omega) (fun j e => ((own_below L2.out HB4.out).lt j e).1))
        clear hown' hgrow hL5 hN5
        go_wp2
        exact ⟨⟨k + 1, by omega, by go_num, by rw [HST.out.2], HL5, HN5, HF⟩, by simp [intOf]; omega⟩
      · have hw3 : (dw == 3) = false := by simp [h3]
        have HST := Lib.hid (show story C.deeds ends (k + 1) = story C.deeds ends k ∧ weldsTo C.deeds (k + 1) = weldsTo C.deeds k by
          refine ⟨?_, by simp [weldsTo, HDK.out, h1]⟩
          simp only [story, stepC, HDK.out]
          rw [if_neg h1, if_neg h2, if_neg h3])
        have hw1 : (dw == 1) = false := by simp [h1]
        have hw2 : (dw == 2) = false := by simp [h2]
        clear h1 h2 h3 hM
        have L1 := Lib.hid l1
        have L2 := Lib.hid l2
        have L3 := Lib.hid l3
        have HB4 := Lib.hid (show Below wr.heap.size wr (wr.alloc (.cells #[.int .i64 dw, .int .i64 dat, .int .i64 dfr, .int .i64 dba, .int .i64 dsm] 55)) from (Below.refl _ wr).alloc (Nat.le_refl _) _)
        have HNEW := Lib.hid (show OwnInts (wr.alloc (.cells #[.int .i64 dw, .int .i64 dat, .int .i64 dfr, .int .i64 dba, .int .i64 dsm] 55)) (.slice nA M ncap) (story C.deeds ends (k + 1)) from HST.out.1 ▸ hnow.out.below HB4.out)
        clear l1 l2 l3
        have hz4 := HB4.out.size
        go_wp2_with (at_builtin; (refine wpList_append_own _ rfl (.tmp 94) (.tmp 96) 88 rfl (w.heap.size + 1) 33 iI (.slice none 0 0) 1 24 Try.underlying88 hiI hzI0 hzI1 hzI2 rfl (by decide) (.slice oA (k + 1) ocap) (k + 1) vs rfl ((own_below L2.out HB4.out).alloc _) ⟨wr.heap.size + 1, 0, none⟩ 1 1 [.slice nA M ncap] rfl rfl ?f1 ?f2 ?f3 ?f4 ?f5 ?_))
        case f2 => first | rfl | (intro u hu; simp at hu; subst hu; rfl)
        case f3 => unfold maxLen; omega
        case f4 => omega
        case f5 => first | omega | (simp; omega)
        intro v' w5 hown' hgrow _
        obtain ⟨hL5, hN5⟩ := story_next L1.out L2.out L3.out HB4.out HNEW.out hgrow hown'
        have HL5 := Lib.hid hL5
        have HN5 := Lib.hid hN5
        have HF := Lib.hid (((hbl.out.trans (HB4.out.mono hszr)).alloc (by omega) _).grown hgrow (by simp; omega) (fun j e => ((own_below L2.out HB4.out).lt j e).1))
        clear hown' hgrow hL5 hN5
        go_wp2
        exact ⟨⟨k + 1, by omega, by go_num, by rw [HST.out.2], HL5, HN5, HF⟩, by simp [intOf]; omega⟩
    · obtain rfl : C.deeds.length = k := by omega
      go_wp2
      go_ret
      exact ⟨_, rfl, hlists.out.lower (by omega), boxed hbl.out⟩

end Go.Proofs.Ytgjikoebneiamaa
