/-
  Links, the law's reference: all ends that the deeds can have, beginning with some.
-/
import Derived.Test.YtgjikoebneiamaaLMul
import Derived.Test.YtgjikoebneiamaaLNow

namespace Go.Proofs.Ytgjikoebneiamaa
open Go.RowKit Go.Shelf

/-- All ends that begin with some. -/
def choicesFrom (ds : List Deed) (first : List Int) : List (List Int) := (choicesL (ds.drop first.length)).map (first ++ ·)
theorem choicesFrom_done {ds : List Deed} {first : List Int} (h : first.length = ds.length) : choicesFrom ds first = [first] := by
  simp [choicesFrom, h, choicesL]
theorem drop_dnth {ds : List Deed} {k : Nat} (h : k < ds.length) : ds.drop k = dnth ds k :: ds.drop (k + 1) := by
  rw [dnth_lt h]; exact List.drop_eq_getElem_cons h
theorem choicesFrom_one {ds : List Deed} {first : List Int} (h : first.length < ds.length) (hf : (dnth ds first.length).from_ < 2) : choicesFrom ds first = choicesFrom ds (first ++ [(dnth ds first.length).from_]) := by
  simp only [choicesFrom, drop_dnth h, choicesL, if_pos hf, List.length_append, List.length_cons, List.length_nil, List.map_map]
  refine List.map_congr_left (fun x _ => ?_)
  simp
theorem choicesFrom_two {ds : List Deed} {first : List Int} (h : first.length < ds.length) (hf : ¬ (dnth ds first.length).from_ < 2) : choicesFrom ds first = choicesFrom ds (first ++ [0]) ++ choicesFrom ds (first ++ [1]) := by
  simp only [choicesFrom, drop_dnth h, choicesL, if_neg hf, List.length_append, List.length_cons, List.length_nil, List.map_map, List.map_append]
  congr 1 <;> exact List.map_congr_left (fun x _ => by simp)
theorem empty_key {k b : Nat} (h : (Value.slice (some ⟨k, 0, none⟩) 0 0).ownBlock = some b) : k ≤ b := by
  have : k = b := by simpa [Value.ownBlock] using h
  omega
theorem inner_of {w : World} {base n : Nat} {v x : Value} {xs : List (List Int)} {vs : List Value} (h1 : vs.length = xs.length) (h2 : w.ownsRow base 33 1 v n vs) (hx : x ∈ vs) {b : Nat} (hb : x.ownBlock = some b) : Inner w v b := by
  obtain ⟨i, hi, rfl⟩ := List.getElem_of_mem hx
  have hn : n = vs.length := by have := h2.1; omega
  rcases h2.2 with ⟨_, h0⟩ | ⟨g, cap, cur, e, _⟩
  · omega
  · subst e
    exact ⟨g, n, cap, i, _, rfl, by omega, by rw [h2.cellAt i (by omega)]; exact List.getElem?_eq_getElem hi, hb⟩
theorem own_ints {w : World} {base : Nat} {v : Value} {first : List Int} {y : Int} (h : w.ownsRow base 3 1 v (0 + first.length + 1) ([] ++ first.map (Value.int .i64) ++ [.int .i64 y])) : OwnInts w v (first ++ [y]) := by
  unfold OwnInts
  have : (first ++ [y]).map (Value.int .i64) = [] ++ first.map (Value.int .i64) ++ [.int .i64 y] := by simp
  rw [this, show (first ++ [y]).length = 0 + first.length + 1 by simp]
  exact own_grow0 (W := w) h (Nat.zero_le _)
theorem one_list {W : World} {k base : Nat} {u : Value} {first : List Int} (h : W.heap[k]? = some (.cells #[u] 33)) (hb : base ≤ k) (hu : OwnInts W u first) : ListsAt W base (.slice (some ⟨k, 0, none⟩) 1 1) [first] :=
  ⟨[u], rfl, ⟨rfl, .inr ⟨k, 1, #[u], rfl, hb, h, Nat.le_refl _, by unfold maxLen; omega, rfl, rfl⟩⟩, fun i hi => by
    obtain rfl : i = 0 := by simpa using hi
    exact ⟨u, rfl, hu⟩⟩
theorem one_inner {W : World} {k b : Nat} {u : Value} (h : W.heap[k]? = some (.cells #[u] 33)) (hi : Inner W (.slice (some ⟨k, 0, none⟩) 1 1) b) : u.ownBlock = some b := by
  obtain ⟨g, n, c, i, y, e1, e2, e3, e4⟩ := hi
  injection e1 with e1 en _
  injection e1 with e1
  injection e1 with e1
  subst e1 en
  obtain rfl : i = 0 := by omega
  rw [cells_of (i := 0) h rfl] at e3
  injection e3 with e3
  subst e3
  exact e4
theorem choicesL_len : ∀ ds : List Deed, (choicesL ds).length ≤ 2 ^ ds.length
  | [] => by simp [choicesL]
  | d :: ds => by
    have ih := choicesL_len ds
    simp only [choicesL, List.length_cons, Nat.pow_succ]
    split <;> simp <;> omega
theorem choicesFrom_len (C : Chain) (hn : C.deeds.length ≤ 12) (first : List Int) : (choicesFrom C.deeds first).length ≤ 4096 := by
  have h1 := choicesL_len (C.deeds.drop first.length)
  have h2 : 2 ^ (C.deeds.drop first.length).length ≤ 2 ^ 12 := Nat.pow_le_pow_right (by omega) (by simp; omega)
  simp only [choicesFrom, List.length_map]
  omega

set_option maxRecDepth 100000 in
set_option maxHeartbeats 8000000 in
theorem choices_any (C : Chain) (hV : validB C = true) : ∀ (m : Nat) (first : List Int) (v u : Value) (w : World), first.length + m = C.deeds.length → ChainAt w.heap.size w v C → OwnInts w u first →
    Calls Try.prog 74 #[v, u] w fun e w' => ∃ q, e = .returned q ∧ ListsAt w' w.heap.size q (choicesFrom C.deeds first) ∧ (∀ b, q.ownBlock = some b ∨ Inner w' q b → w.heap.size ≤ b ∨ u.ownBlock = some b) ∧ Below w.heap.size w w' := by
  intro m
  induction m with
  | zero =>
    intro first v u w hm hx hu
    have hx' := hx
    obtain ⟨a, cap, b, off, a2, cap2, b2, off2, rfl, hm1, hm2, hcap, hcapm, HA, HC, HA2, HC2, HI, HI2⟩ := hx.opened
    obtain ⟨uA, uc, rfl, _⟩ := own_form hu
    have HS0 := Lib.hid (LStat.first hx')
    have HU := Lib.hid hu
    obtain ⟨c0, c1, c2⟩ := HS0.out.cells
    have hlen : ((first.length : Int) == (C.deeds.length : Int)) = true := by rw [beq_iff_eq]; omega
    have HD := Lib.hid (choicesFrom_done (ds := C.deeds) (first := first) (by omega))
    clear hx hx' HA HC HA2 HC2 HI HI2 hu
    go_enter Try.func74, Try.ntmps74
    go_upto_region 2 with fail
    obtain ⟨Z, hZ⟩ : ∃ Z, Z = w.alloc (.cells #[.slice a C.deeds.length cap, .slice a2 C.sights.length cap2, .int .i64 C.wrong] 25) := ⟨_, rfl⟩
    have hZs : w.heap.size ≤ Z.heap.size := by rw [hZ]; simp
    have HUZ := Lib.hid (show OwnInts Z (.slice uA first.length uc) first from by rw [hZ]; exact HU.out.below ((Below.refl _ w).alloc (Nat.le_refl _) _))
    rw [← hZ] at HS0 ⊢
    clear hZ c0 c1 c2
    have hnew := heap_new Z (.cells #[.slice uA first.length uc] 33)
    have HB := Lib.hid ((Below.refl Z.heap.size Z).alloc (Nat.le_refl _) (.cells #[.slice uA first.length uc] 33))
    have HN := Lib.hid hnew
    go_wp2
    go_ret
    rw [HD.out]
    refine ⟨_, rfl, one_list HN.out hZs (HUZ.out.below HB.out), fun b hb => ?_, HS0.out.b.trans (HB.out.mono hZs)⟩
    rcases hb with hb | hb
    · exact .inl (Nat.le_trans hZs (src_key hb))
    · exact .inr (one_inner HN.out hb)
  | succ m ih =>
    intro first v u w hm hx hu
    have hx' := hx
    obtain ⟨i0, hiT, hz0, hz1, hz2⟩ := info_parts Try_infoInt
    obtain ⟨iI, hiI, hzI0, hzI1, hzI2⟩ := info_parts Try_infoInts
    obtain ⟨a, cap, b, off, a2, cap2, b2, off2, rfl, hm1, hm2, hcap, hcapm, HA, HC, HA2, HC2, HI, HI2⟩ := hx.opened
    obtain ⟨uA, uc, rfl, _⟩ := own_form hu
    have HS0 := Lib.hid (LStat.first hx')
    have HU := Lib.hid hu
    have hnd := (valid_iff.1 hV).nd
    obtain ⟨c0, c1, c2⟩ := HS0.out.cells
    have hlt : first.length < C.deeds.length := by omega
    have hlen : ((first.length : Int) == (C.deeds.length : Int)) = false := beq_eq_false_iff_ne.2 (by omega)
    obtain ⟨rfl, hbw⟩ := HA.out (by omega)
    obtain ⟨d0, d1, d2, d3, d4⟩ := (HC.out first.length hlt).below HS0.out.b hbw
    obtain ⟨y, hy⟩ : ∃ y, (dnth C.deeds first.length).from_ = y := ⟨_, rfl⟩
    rw [hy] at d2
    have HY := Lib.hid hy
    have hi0 : (0 : Int) ≤ (first.length : Int) := by omega
    have hi1 : (first.length : Int) < (C.deeds.length : Int) := by omega
    obtain ⟨Z, hZ⟩ : ∃ Z, Z = w.alloc (.cells #[.slice (some ⟨b, off, none⟩) C.deeds.length cap, .slice a2 C.sights.length cap2, .int .i64 C.wrong] 25) := ⟨_, rfl⟩
    have hZs : w.heap.size ≤ Z.heap.size := by rw [hZ]; simp
    have HZ := Lib.hid hZ
    have HUZ := Lib.hid (show OwnInts Z (.slice uA first.length uc) first from by rw [hZ]; exact hu.below ((Below.refl _ w).alloc (Nat.le_refl _) _))
    have HUL := Lib.hid (fun b h => (hu.lt b h).2)
    clear hx hx' HA HC HA2 HC2 HI HI2 hu hy hZ
    by_cases hf : y < 2
    · have hf' : decide (y < 2) = true := decide_eq_true hf
      have HC1 := Lib.hid (choicesFrom_one hlt (by rw [HY.out]; exact hf))
      rw [HY.out] at HC1
      go_enter Try.func74, Try.ntmps74
      go_upto_region 5 with fail
      rw [← HZ.out] at HS0 ⊢
      clear c0 c1 c2 d0 d1 d2 d3 d4
      refine wp_region_mul (fun b => Z.heap.size ≤ b) _ 8 [23, 24, 25, 26, 27, 28, 29, 30] [misV _ (.agg #[.slice (some ⟨b, off, none⟩) C.deeds.length cap, .slice a2 C.sights.length cap2, .int .i64 C.wrong]), mrowF _ Z.heap.size 3 1 (0) ([]), misV _ (.slice uA first.length uc), mrowF _ Z.heap.size 3 1 (0 + first.length) (([]) ++ (first.map (Value.int .i64))), misV _ (.int .i64 y), msrcF _ (.cells #[.int .i64 y] 3), mrowF _ Z.heap.size 3 1 (0 + first.length + 1) (([] ++ (first.map (Value.int .i64))) ++ [.int .i64 y]), mlistF _ Z.heap.size (choicesFrom C.deeds (first ++ [y]))] (takeM [(3, [1]), (6, [3]), (7, [6])]) (own1 0 none) (by kernel_rfl) (by kernel_rfl) (by kernel_rfl) (takeM_none (by decide)) (fun i b h => by cases (own1_some h).2) own1_inj (by kernel_rfl) rfl (by decide) (by decide) (by simp) ?step ?rest
      case step =>
        intro i ac W d hi hd hb hfirst hoff hdep
        have hbz : Below Z.heap.size Z W := ⟨hb.os, hb.tape, hb.output, hb.size, fun k hk => hb.block k hk (by show ¬ Z.heap.size ≤ k; omega)⟩
        have hs := HS0.out.next hbz
        obtain ⟨c0, c1, c2⟩ := hs.cells
        have hu := HUZ.out.below hbz
        have hi2 : i = 0 ∨ i = 1 ∨ i = 2 ∨ i = 3 ∨ i = 4 ∨ i = 5 ∨ i = 6 ∨ i = 7 := by omega
        rcases hi2 with rfl | rfl | rfl | rfl | rfl | rfl | rfl | rfl
        · obtain rfl : 23 = d := by simpa using hd
          have q2 : ac.tmps[2]?.getD undef = .pointer (some ⟨w.heap.size, 0, none⟩) := (eval_tmp _ _).symm.trans <| (hoff 2 (by decide)).trans rfl
          refine mul_value rfl rfl rfl (v := .agg #[.slice (some ⟨b, off, none⟩) C.deeds.length cap, .slice a2 C.sights.length cap2, .int .i64 C.wrong]) (W' := W) ?_ (World.grownBy.refl _ _) rfl (fun b h => h.elim)
          simp only [execOp]
          go_simp
        · obtain rfl : 24 = d := by simpa using hd
          refine mul_value rfl rfl rfl (v := .slice (some ⟨W.heap.size, 0, none⟩) 0 0) (W' := W.alloc (.cells #[] 3)) ?_ (below_grownBy ((Below.refl _ _).alloc (Nat.le_refl _) _)) ⟨own_empty (heap_new _ _) hb.size _, fun b h => Nat.le_trans hb.size (empty_key h)⟩ (fun b h => .inl (empty_key h))
          simp only [execOp]
          go_simp
        · obtain rfl : 25 = d := by simpa using hd
          have q1 : ac.tmps[1]?.getD undef = .slice uA first.length uc := (eval_tmp _ _).symm.trans <| (hoff 1 (by decide)).trans rfl
          refine mul_value rfl rfl rfl (v := .slice uA first.length uc) (W' := W) ?_ (World.grownBy.refl _ _) rfl (fun b h => h.elim)
          simp only [execOp]
          go_simp
        · obtain rfl : 26 = d := by simpa using hd
          have e24 : W.ownsRow Z.heap.size 3 1 (ac.eval (.tmp 24)) (0) ([]) ∧ ∀ b, ((ac.eval (.tmp 24)) : Value).ownBlock = some b → Z.heap.size ≤ b := hdep 1 24 rfl rfl
          have q25 : ac.tmps[25]?.getD undef = .slice uA first.length uc := (eval_tmp _ _).symm.trans (hdep 2 25 rfl rfl)
          skip
          refine mul_onto (base := Z.heap.size) (nn := 0) (m := first.length) (A := uA) (c := uc) (j := 1) (xs := []) (news := (first.map (Value.int .i64))) (.tmp 24) (.tmp 25) 24 rfl rfl rfl rfl Try.underlying33 hiT hz0 hz1 hz2 rfl (by decide) rfl e24.1 ((eval_tmp ac 25).trans q25) (from_own hu) (by simp [Value.oneCell']) (by unfold maxLen; omega) (by omega) hb.size (by decide) rfl (fun b h => h) (fun A' c' W' h1 h2 h3 => ⟨⟨h1, fun b hb' => ?_⟩, fun b h => .inl h⟩)
          rcases h3 with h3 | h3
          · exact e24.2 b (h3 ▸ hb')
          · rw [h3] at hb'
            injection hb' with hb'
            have := hb.size
            omega
        · obtain rfl : 27 = d := by simpa using hd
          have q5 : ac.tmps[5]?.getD undef = .int .i64 y := (eval_tmp _ _).symm.trans <| (hoff 5 (by decide)).trans rfl
          refine mul_value rfl rfl rfl (v := .int .i64 y) (W' := W) ?_ (World.grownBy.refl _ _) rfl (fun b h => h.elim)
          simp only [execOp]
          go_simp
        · obtain rfl : 28 = d := by simpa using hd
          have q27 : ac.tmps[27]?.getD undef = .int .i64 y := (eval_tmp _ _).symm.trans (hdep 4 27 rfl rfl)
          refine mul_value rfl rfl rfl (v := .slice (some ⟨W.heap.size, 0, none⟩) 1 1) (W' := W.alloc (.cells #[.int .i64 y] 3)) ?_ (below_grownBy ((Below.refl _ _).alloc (Nat.le_refl _) _)) ⟨_, rfl, hb.size, heap_new _ _⟩ (fun b h => .inl (src_key h))
          simp only [execOp]
          go_simp
        · obtain rfl : 29 = d := by simpa using hd
          have e26 : W.ownsRow Z.heap.size 3 1 (ac.eval (.tmp 26)) (0 + first.length) (([]) ++ (first.map (Value.int .i64))) ∧ ∀ b, ((ac.eval (.tmp 26)) : Value).ownBlock = some b → Z.heap.size ≤ b := hdep 3 26 rfl rfl
          have e28 : ∃ A, (ac.eval (.tmp 28)) = .slice (some ⟨A, 0, none⟩) 1 1 ∧ Z.heap.size ≤ A ∧ W.heap[A]? = some (.cells #[.int .i64 y] 3) := hdep 5 28 rfl rfl
          obtain ⟨A, hA, hokA, hblk⟩ := e28
          refine mul_onto (base := Z.heap.size) (nn := 0 + first.length) (m := 1) (A := some ⟨A, 0, none⟩) (c := 1) (j := 3) (xs := [] ++ (first.map (Value.int .i64))) (news := [.int .i64 y]) (.tmp 26) (.tmp 28) 26 rfl rfl rfl rfl Try.underlying33 hiT hz0 hz1 hz2 rfl (by decide) rfl e26.1 (hA) ⟨rfl, fun _ => ⟨_, rfl, World.news_of_block (fr := (0, 0)) hblk⟩⟩ (by simp [Value.oneCell']) (by unfold maxLen; omega) (by omega) hb.size (by decide) rfl (fun b h => h) (fun A' c' W' h1 h2 h3 => ⟨⟨h1, fun b hb' => ?_⟩, fun b h => .inl h⟩)
          rcases h3 with h3 | h3
          · exact e26.2 b (h3 ▸ hb')
          · rw [h3] at hb'
            injection hb' with hb'
            have := hb.size
            omega
        · obtain rfl : 30 = d := by simpa using hd
          have q23 : ac.tmps[23]?.getD undef = .agg #[.slice (some ⟨b, off, none⟩) C.deeds.length cap, .slice a2 C.sights.length cap2, .int .i64 C.wrong] := (eval_tmp _ _).symm.trans (hdep 0 23 rfl rfl)
          have e29 : W.ownsRow Z.heap.size 3 1 (ac.eval (.tmp 29)) (0 + first.length + 1) (([] ++ (first.map (Value.int .i64))) ++ [.int .i64 y]) ∧ ∀ b, ((ac.eval (.tmp 29)) : Value).ownBlock = some b → Z.heap.size ≤ b := hdep 6 29 rfl rfl
          refine mul_call rfl rfl rfl (f := 74) (args := #[.agg #[.slice (some ⟨b, off, none⟩) C.deeds.length cap, .slice a2 C.sights.length cap2, .int .i64 C.wrong], ac.tmps[29]?.getD undef]) ?_ ?_
          · simp only [execOp]
            go_simp
          · refine (ih (first ++ [y]) _ _ W (by simp; omega) hs.st (own_ints (eval_tmp ac 29 ▸ e29.1))).mono ?_
            rintro e W' ⟨q, rfl, hls, hin, hbk⟩
            have hbs := hb.size
            refine ⟨q, rfl, hbk, ⟨hls.lower hbs, fun b hb' => ?_⟩, fun b hb' => ?_⟩
            · rcases hin b hb' with h | h
              · omega
              · exact e29.2 b (by rw [eval_tmp]; exact h)
            · rcases hin b hb' with h | h
              · exact .inl h
              · exact .inr (.inl ⟨6, 29, by decide, rfl, by rw [eval_tmp]; exact h⟩)
      case rest =>
        intro vs W2 hvl hbx hval
        obtain ⟨x0, x1, x2, x3, x4, x5, x6, x7, rfl⟩ : ∃ x0 x1 x2 x3 x4 x5 x6 x7, vs = [x0, x1, x2, x3, x4, x5, x6, x7] := by
          match vs, hvl with
          | [x0, x1, x2, x3, x4, x5, x6, x7], _ => exact ⟨x0, x1, x2, x3, x4, x5, x6, x7, rfl⟩
        obtain rfl : x0 = .agg #[.slice (some ⟨b, off, none⟩) C.deeds.length cap, .slice a2 C.sights.length cap2, .int .i64 C.wrong] := by obtain ⟨u, e, h⟩ := hval 0 (by omega) (takeM_not (by decide)); have e2 : some x0 = some u := e; injection e2 with e2; subst e2; exact h
        obtain rfl : x2 = .slice uA first.length uc := by obtain ⟨u, e, h⟩ := hval 2 (by omega) (takeM_not (by decide)); have e2 : some x2 = some u := e; injection e2 with e2; subst e2; exact h
        obtain rfl : x4 = .int .i64 y := by obtain ⟨u, e, h⟩ := hval 4 (by omega) (takeM_not (by decide)); have e2 : some x4 = some u := e; injection e2 with e2; subst e2; exact h
        have k5 : ∃ A, x5 = .slice (some ⟨A, 0, none⟩) 1 1 ∧ Z.heap.size ≤ A ∧ W2.heap[A]? = some (.cells #[.int .i64 y] 3) := by obtain ⟨u, e, h⟩ := hval 5 (by omega) (takeM_not (by decide)); have e2 : some x5 = some u := e; injection e2 with e2; subst e2; exact h
        have k7 : ListsAt W2 Z.heap.size x7 (choicesFrom C.deeds (first ++ [y])) ∧ ∀ b, (x7 : Value).ownBlock = some b ∨ Inner W2 x7 b → Z.heap.size ≤ b := by obtain ⟨u, e, h⟩ := hval 7 (by omega) (takeM_not (by decide)); have e2 : some x7 = some u := e; injection e2 with e2; subst e2; exact h
        clear hval hvl
        have HBX := Lib.hid (show Below w.heap.size w W2 from HS0.out.b.trans ((⟨hbx.os, hbx.tape, hbx.output, hbx.size, fun k hk => hbx.block k hk (by show ¬ Z.heap.size ≤ k; omega)⟩ : Below Z.heap.size Z W2).mono hZs))
        have HL := Lib.hid k7
        clear hbx k5 k7
        simp only [putL, Act.put, List.drop, List.setIfInBounds_toArray, List.set_cons_zero, List.set_cons_succ]
        go_wp2
        go_ret
        exact ⟨_, rfl, by rw [HC1.out]; exact HL.out.1.lower hZs, fun b hb => .inl (Nat.le_trans hZs (HL.out.2 b hb)), HBX.out⟩
    · have hf' : decide (y < 2) = false := decide_eq_false hf
      have HC1 := Lib.hid (choicesFrom_two hlt (by rw [HY.out]; exact hf))
      have hlen1 := choicesFrom_len C hnd (first ++ [0])
      have hlen2 := choicesFrom_len C hnd (first ++ [1])
      go_enter Try.func74, Try.ntmps74
      go_upto_region 6 with fail
      rw [← HZ.out] at HS0 ⊢
      clear c0 c1 c2 d0 d1 d2 d3 d4
      refine wp_region_mul (fun b => Z.heap.size ≤ b) _ 15 [31, 32, 33, 34, 35, 36, 37, 38, 39, 40, 41, 42, 43, 44, 45] [misV _ (.agg #[.slice (some ⟨b, off, none⟩) C.deeds.length cap, .slice a2 C.sights.length cap2, .int .i64 C.wrong]), mrowF _ Z.heap.size 3 1 (0) ([]), misV _ (.slice uA first.length uc), mrowF _ Z.heap.size 3 1 (0 + first.length) (([]) ++ (first.map (Value.int .i64))), msrcF _ (.cells #[.int .i64 0] 3), mrowF _ Z.heap.size 3 1 (0 + first.length + 1) (([] ++ (first.map (Value.int .i64))) ++ [.int .i64 0]), mlistF _ Z.heap.size (choicesFrom C.deeds (first ++ [0])), misV _ (.agg #[.slice (some ⟨b, off, none⟩) C.deeds.length cap, .slice a2 C.sights.length cap2, .int .i64 C.wrong]), mrowF _ Z.heap.size 3 1 (0) ([]), misV _ (.slice uA first.length uc), mrowF _ Z.heap.size 3 1 (0 + first.length) (([]) ++ (first.map (Value.int .i64))), msrcF _ (.cells #[.int .i64 1] 3), mrowF _ Z.heap.size 3 1 (0 + first.length + 1) (([] ++ (first.map (Value.int .i64))) ++ [.int .i64 1]), mlistF _ Z.heap.size (choicesFrom C.deeds (first ++ [1])), mlistF _ Z.heap.size ((choicesFrom C.deeds (first ++ [0])) ++ (choicesFrom C.deeds (first ++ [1])))] (takeM [(3, [1]), (5, [3]), (6, [5]), (10, [8]), (12, [10]), (13, [12]), (14, [6, 13])]) (own1 0 none) (by kernel_rfl) (by kernel_rfl) (by kernel_rfl) (takeM_none (by decide)) (fun i b h => by cases (own1_some h).2) own1_inj (by kernel_rfl) rfl (by decide) (by decide) (by simp) ?step ?rest
      case step =>
        intro i ac W d hi hd hb hfirst hoff hdep
        have hbz : Below Z.heap.size Z W := ⟨hb.os, hb.tape, hb.output, hb.size, fun k hk => hb.block k hk (by show ¬ Z.heap.size ≤ k; omega)⟩
        have hs := HS0.out.next hbz
        obtain ⟨c0, c1, c2⟩ := hs.cells
        have hu := HUZ.out.below hbz
        have hi2 : i = 0 ∨ i = 1 ∨ i = 2 ∨ i = 3 ∨ i = 4 ∨ i = 5 ∨ i = 6 ∨ i = 7 ∨ i = 8 ∨ i = 9 ∨ i = 10 ∨ i = 11 ∨ i = 12 ∨ i = 13 ∨ i = 14 := by omega
        rcases hi2 with rfl | rfl | rfl | rfl | rfl | rfl | rfl | rfl | rfl | rfl | rfl | rfl | rfl | rfl | rfl
        · obtain rfl : 31 = d := by simpa using hd
          have q2 : ac.tmps[2]?.getD undef = .pointer (some ⟨w.heap.size, 0, none⟩) := (eval_tmp _ _).symm.trans <| (hoff 2 (by decide)).trans rfl
          refine mul_value rfl rfl rfl (v := .agg #[.slice (some ⟨b, off, none⟩) C.deeds.length cap, .slice a2 C.sights.length cap2, .int .i64 C.wrong]) (W' := W) ?_ (World.grownBy.refl _ _) rfl (fun b h => h.elim)
          simp only [execOp]
          go_simp
        · obtain rfl : 32 = d := by simpa using hd
          refine mul_value rfl rfl rfl (v := .slice (some ⟨W.heap.size, 0, none⟩) 0 0) (W' := W.alloc (.cells #[] 3)) ?_ (below_grownBy ((Below.refl _ _).alloc (Nat.le_refl _) _)) ⟨own_empty (heap_new _ _) hb.size _, fun b h => Nat.le_trans hb.size (empty_key h)⟩ (fun b h => .inl (empty_key h))
          simp only [execOp]
          go_simp
        · obtain rfl : 33 = d := by simpa using hd
          have q1 : ac.tmps[1]?.getD undef = .slice uA first.length uc := (eval_tmp _ _).symm.trans <| (hoff 1 (by decide)).trans rfl
          refine mul_value rfl rfl rfl (v := .slice uA first.length uc) (W' := W) ?_ (World.grownBy.refl _ _) rfl (fun b h => h.elim)
          simp only [execOp]
          go_simp
        · obtain rfl : 34 = d := by simpa using hd
          have e32 : W.ownsRow Z.heap.size 3 1 (ac.eval (.tmp 32)) (0) ([]) ∧ ∀ b, ((ac.eval (.tmp 32)) : Value).ownBlock = some b → Z.heap.size ≤ b := hdep 1 32 rfl rfl
          have q33 : ac.tmps[33]?.getD undef = .slice uA first.length uc := (eval_tmp _ _).symm.trans (hdep 2 33 rfl rfl)
          skip
          refine mul_onto (base := Z.heap.size) (nn := 0) (m := first.length) (A := uA) (c := uc) (j := 1) (xs := []) (news := (first.map (Value.int .i64))) (.tmp 32) (.tmp 33) 32 rfl rfl rfl rfl Try.underlying33 hiT hz0 hz1 hz2 rfl (by decide) rfl e32.1 ((eval_tmp ac 33).trans q33) (from_own hu) (by simp [Value.oneCell']) (by unfold maxLen; omega) (by omega) hb.size (by decide) rfl (fun b h => h) (fun A' c' W' h1 h2 h3 => ⟨⟨h1, fun b hb' => ?_⟩, fun b h => .inl h⟩)
          rcases h3 with h3 | h3
          · exact e32.2 b (h3 ▸ hb')
          · rw [h3] at hb'
            injection hb' with hb'
            have := hb.size
            omega
        · obtain rfl : 35 = d := by simpa using hd
          refine mul_value rfl rfl rfl (v := .slice (some ⟨W.heap.size, 0, none⟩) 1 1) (W' := W.alloc (.cells #[.int .i64 0] 3)) ?_ (below_grownBy ((Below.refl _ _).alloc (Nat.le_refl _) _)) ⟨_, rfl, hb.size, heap_new _ _⟩ (fun b h => .inl (src_key h))
          simp only [execOp]
          go_simp
        · obtain rfl : 36 = d := by simpa using hd
          have e34 : W.ownsRow Z.heap.size 3 1 (ac.eval (.tmp 34)) (0 + first.length) (([]) ++ (first.map (Value.int .i64))) ∧ ∀ b, ((ac.eval (.tmp 34)) : Value).ownBlock = some b → Z.heap.size ≤ b := hdep 3 34 rfl rfl
          have e35 : ∃ A, (ac.eval (.tmp 35)) = .slice (some ⟨A, 0, none⟩) 1 1 ∧ Z.heap.size ≤ A ∧ W.heap[A]? = some (.cells #[.int .i64 0] 3) := hdep 4 35 rfl rfl
          obtain ⟨A, hA, hokA, hblk⟩ := e35
          refine mul_onto (base := Z.heap.size) (nn := 0 + first.length) (m := 1) (A := some ⟨A, 0, none⟩) (c := 1) (j := 3) (xs := [] ++ (first.map (Value.int .i64))) (news := [.int .i64 0]) (.tmp 34) (.tmp 35) 34 rfl rfl rfl rfl Try.underlying33 hiT hz0 hz1 hz2 rfl (by decide) rfl e34.1 (hA) ⟨rfl, fun _ => ⟨_, rfl, World.news_of_block (fr := (0, 0)) hblk⟩⟩ (by simp [Value.oneCell']) (by unfold maxLen; omega) (by omega) hb.size (by decide) rfl (fun b h => h) (fun A' c' W' h1 h2 h3 => ⟨⟨h1, fun b hb' => ?_⟩, fun b h => .inl h⟩)
          rcases h3 with h3 | h3
          · exact e34.2 b (h3 ▸ hb')
          · rw [h3] at hb'
            injection hb' with hb'
            have := hb.size
            omega
        · obtain rfl : 37 = d := by simpa using hd
          have q31 : ac.tmps[31]?.getD undef = .agg #[.slice (some ⟨b, off, none⟩) C.deeds.length cap, .slice a2 C.sights.length cap2, .int .i64 C.wrong] := (eval_tmp _ _).symm.trans (hdep 0 31 rfl rfl)
          have e36 : W.ownsRow Z.heap.size 3 1 (ac.eval (.tmp 36)) (0 + first.length + 1) (([] ++ (first.map (Value.int .i64))) ++ [.int .i64 0]) ∧ ∀ b, ((ac.eval (.tmp 36)) : Value).ownBlock = some b → Z.heap.size ≤ b := hdep 5 36 rfl rfl
          refine mul_call rfl rfl rfl (f := 74) (args := #[.agg #[.slice (some ⟨b, off, none⟩) C.deeds.length cap, .slice a2 C.sights.length cap2, .int .i64 C.wrong], ac.tmps[36]?.getD undef]) ?_ ?_
          · simp only [execOp]
            go_simp
          · refine (ih (first ++ [0]) _ _ W (by simp; omega) hs.st (own_ints (eval_tmp ac 36 ▸ e36.1))).mono ?_
            rintro e W' ⟨q, rfl, hls, hin, hbk⟩
            have hbs := hb.size
            refine ⟨q, rfl, hbk, ⟨hls.lower hbs, fun b hb' => ?_⟩, fun b hb' => ?_⟩
            · rcases hin b hb' with h | h
              · omega
              · exact e36.2 b (by rw [eval_tmp]; exact h)
            · rcases hin b hb' with h | h
              · exact .inl h
              · exact .inr (.inl ⟨5, 36, by decide, rfl, by rw [eval_tmp]; exact h⟩)
        · obtain rfl : 38 = d := by simpa using hd
          have q2 : ac.tmps[2]?.getD undef = .pointer (some ⟨w.heap.size, 0, none⟩) := (eval_tmp _ _).symm.trans <| (hoff 2 (by decide)).trans rfl
          refine mul_value rfl rfl rfl (v := .agg #[.slice (some ⟨b, off, none⟩) C.deeds.length cap, .slice a2 C.sights.length cap2, .int .i64 C.wrong]) (W' := W) ?_ (World.grownBy.refl _ _) rfl (fun b h => h.elim)
          simp only [execOp]
          go_simp
        · obtain rfl : 39 = d := by simpa using hd
          refine mul_value rfl rfl rfl (v := .slice (some ⟨W.heap.size, 0, none⟩) 0 0) (W' := W.alloc (.cells #[] 3)) ?_ (below_grownBy ((Below.refl _ _).alloc (Nat.le_refl _) _)) ⟨own_empty (heap_new _ _) hb.size _, fun b h => Nat.le_trans hb.size (empty_key h)⟩ (fun b h => .inl (empty_key h))
          simp only [execOp]
          go_simp
        · obtain rfl : 40 = d := by simpa using hd
          have q1 : ac.tmps[1]?.getD undef = .slice uA first.length uc := (eval_tmp _ _).symm.trans <| (hoff 1 (by decide)).trans rfl
          refine mul_value rfl rfl rfl (v := .slice uA first.length uc) (W' := W) ?_ (World.grownBy.refl _ _) rfl (fun b h => h.elim)
          simp only [execOp]
          go_simp
        · obtain rfl : 41 = d := by simpa using hd
          have e39 : W.ownsRow Z.heap.size 3 1 (ac.eval (.tmp 39)) (0) ([]) ∧ ∀ b, ((ac.eval (.tmp 39)) : Value).ownBlock = some b → Z.heap.size ≤ b := hdep 8 39 rfl rfl
          have q40 : ac.tmps[40]?.getD undef = .slice uA first.length uc := (eval_tmp _ _).symm.trans (hdep 9 40 rfl rfl)
          skip
          refine mul_onto (base := Z.heap.size) (nn := 0) (m := first.length) (A := uA) (c := uc) (j := 8) (xs := []) (news := (first.map (Value.int .i64))) (.tmp 39) (.tmp 40) 39 rfl rfl rfl rfl Try.underlying33 hiT hz0 hz1 hz2 rfl (by decide) rfl e39.1 ((eval_tmp ac 40).trans q40) (from_own hu) (by simp [Value.oneCell']) (by unfold maxLen; omega) (by omega) hb.size (by decide) rfl (fun b h => h) (fun A' c' W' h1 h2 h3 => ⟨⟨h1, fun b hb' => ?_⟩, fun b h => .inl h⟩)
          rcases h3 with h3 | h3
          · exact e39.2 b (h3 ▸ hb')
          · rw [h3] at hb'
            injection hb' with hb'
            have := hb.size
            omega
        · obtain rfl : 42 = d := by simpa using hd
          refine mul_value rfl rfl rfl (v := .slice (some ⟨W.heap.size, 0, none⟩) 1 1) (W' := W.alloc (.cells #[.int .i64 1] 3)) ?_ (below_grownBy ((Below.refl _ _).alloc (Nat.le_refl _) _)) ⟨_, rfl, hb.size, heap_new _ _⟩ (fun b h => .inl (src_key h))
          simp only [execOp]
          go_simp
        · obtain rfl : 43 = d := by simpa using hd
          have e41 : W.ownsRow Z.heap.size 3 1 (ac.eval (.tmp 41)) (0 + first.length) (([]) ++ (first.map (Value.int .i64))) ∧ ∀ b, ((ac.eval (.tmp 41)) : Value).ownBlock = some b → Z.heap.size ≤ b := hdep 10 41 rfl rfl
          have e42 : ∃ A, (ac.eval (.tmp 42)) = .slice (some ⟨A, 0, none⟩) 1 1 ∧ Z.heap.size ≤ A ∧ W.heap[A]? = some (.cells #[.int .i64 1] 3) := hdep 11 42 rfl rfl
          obtain ⟨A, hA, hokA, hblk⟩ := e42
          refine mul_onto (base := Z.heap.size) (nn := 0 + first.length) (m := 1) (A := some ⟨A, 0, none⟩) (c := 1) (j := 10) (xs := [] ++ (first.map (Value.int .i64))) (news := [.int .i64 1]) (.tmp 41) (.tmp 42) 41 rfl rfl rfl rfl Try.underlying33 hiT hz0 hz1 hz2 rfl (by decide) rfl e41.1 (hA) ⟨rfl, fun _ => ⟨_, rfl, World.news_of_block (fr := (0, 0)) hblk⟩⟩ (by simp [Value.oneCell']) (by unfold maxLen; omega) (by omega) hb.size (by decide) rfl (fun b h => h) (fun A' c' W' h1 h2 h3 => ⟨⟨h1, fun b hb' => ?_⟩, fun b h => .inl h⟩)
          rcases h3 with h3 | h3
          · exact e41.2 b (h3 ▸ hb')
          · rw [h3] at hb'
            injection hb' with hb'
            have := hb.size
            omega
        · obtain rfl : 44 = d := by simpa using hd
          have q38 : ac.tmps[38]?.getD undef = .agg #[.slice (some ⟨b, off, none⟩) C.deeds.length cap, .slice a2 C.sights.length cap2, .int .i64 C.wrong] := (eval_tmp _ _).symm.trans (hdep 7 38 rfl rfl)
          have e43 : W.ownsRow Z.heap.size 3 1 (ac.eval (.tmp 43)) (0 + first.length + 1) (([] ++ (first.map (Value.int .i64))) ++ [.int .i64 1]) ∧ ∀ b, ((ac.eval (.tmp 43)) : Value).ownBlock = some b → Z.heap.size ≤ b := hdep 12 43 rfl rfl
          refine mul_call rfl rfl rfl (f := 74) (args := #[.agg #[.slice (some ⟨b, off, none⟩) C.deeds.length cap, .slice a2 C.sights.length cap2, .int .i64 C.wrong], ac.tmps[43]?.getD undef]) ?_ ?_
          · simp only [execOp]
            go_simp
          · refine (ih (first ++ [1]) _ _ W (by simp; omega) hs.st (own_ints (eval_tmp ac 43 ▸ e43.1))).mono ?_
            rintro e W' ⟨q, rfl, hls, hin, hbk⟩
            have hbs := hb.size
            refine ⟨q, rfl, hbk, ⟨hls.lower hbs, fun b hb' => ?_⟩, fun b hb' => ?_⟩
            · rcases hin b hb' with h | h
              · omega
              · exact e43.2 b (by rw [eval_tmp]; exact h)
            · rcases hin b hb' with h | h
              · exact .inl h
              · exact .inr (.inl ⟨12, 43, by decide, rfl, by rw [eval_tmp]; exact h⟩)
        · obtain rfl : 45 = d := by simpa using hd
          have e37 : ListsAt W Z.heap.size (ac.eval (.tmp 37)) (choicesFrom C.deeds (first ++ [0])) ∧ ∀ b, ((ac.eval (.tmp 37)) : Value).ownBlock = some b ∨ Inner W (ac.eval (.tmp 37)) b → Z.heap.size ≤ b := hdep 6 37 rfl rfl
          have e44 : ListsAt W Z.heap.size (ac.eval (.tmp 44)) (choicesFrom C.deeds (first ++ [1])) ∧ ∀ b, ((ac.eval (.tmp 44)) : Value).ownBlock = some b ∨ Inner W (ac.eval (.tmp 44)) b → Z.heap.size ≤ b := hdep 13 44 rfl rfl
          obtain ⟨vs, p1, p2, p3⟩ := e37.1
          obtain ⟨us, r1, r2, r3⟩ := e44.1
          obtain ⟨kA, kc, hk, _⟩ := own_form r2
          have hk2 := r2
          rw [hk] at hk2
          refine mul_onto (base := Z.heap.size) (nn := (choicesFrom C.deeds (first ++ [0])).length) (m := (choicesFrom C.deeds (first ++ [1])).length) (A := kA) (c := kc) (j := 6) (xs := vs) (news := us) (.tmp 37) (.tmp 44) 37 rfl rfl rfl rfl Try.underlying88 hiI hzI0 hzI1 hzI2 rfl (by decide) rfl p2 hk (from_own hk2) (fun u hu => ?_) (by unfold maxLen; omega) (by omega) hb.size (by decide) rfl (fun b h => .inl h) (fun A' c' W' h1 h2 h3 => ?_)
          · obtain ⟨i, hi, rfl⟩ := List.getElem_of_mem hu
            obtain ⟨x, hx1, hx2⟩ := r3 i (by omega)
            rw [List.getElem?_eq_getElem hi] at hx1
            injection hx1 with hx1
            rw [hx1]
            exact one_row hx2
          · obtain ⟨h4, h5⟩ := lists_append p1 p2 p3 r1 r3 h2 h1
            have hin : ∀ b, Inner W' (.slice A' ((choicesFrom C.deeds (first ++ [0])).length + (choicesFrom C.deeds (first ++ [1])).length) c') b → Inner W (ac.eval (.tmp 37)) b ∨ Inner W (ac.eval (.tmp 44)) b := fun b hb' => by
              obtain ⟨x, hx, hxb⟩ := h5 b hb'
              rcases hx with hx | hx
              · exact .inl (inner_of p1 p2 hx hxb)
              · exact .inr (inner_of r1 r2 hx hxb)
            refine ⟨⟨h4, fun b hb' => ?_⟩, fun b hb' => ?_⟩
            · rcases hb' with hb' | hb'
              · rcases h3 with h3 | h3
                · exact e37.2 b (.inl (h3 ▸ hb'))
                · rw [h3] at hb'
                  injection hb' with hb'
                  have := hb.size
                  omega
              · rcases hin b hb' with h | h
                · exact e37.2 b (.inr h)
                · exact e44.2 b (.inr h)
            · rcases hb' with hb' | hb'
              · exact .inl hb'
              · rcases hin b hb' with h | h
                · exact .inr ⟨6, 37, by decide, rfl, .inr h⟩
                · exact .inr ⟨13, 44, by decide, rfl, .inr h⟩
      case rest =>
        intro vs W2 hvl hbx hval
        obtain ⟨x0, x1, x2, x3, x4, x5, x6, x7, x8, x9, x10, x11, x12, x13, x14, rfl⟩ : ∃ x0 x1 x2 x3 x4 x5 x6 x7 x8 x9 x10 x11 x12 x13 x14, vs = [x0, x1, x2, x3, x4, x5, x6, x7, x8, x9, x10, x11, x12, x13, x14] := by
          match vs, hvl with
          | [x0, x1, x2, x3, x4, x5, x6, x7, x8, x9, x10, x11, x12, x13, x14], _ => exact ⟨x0, x1, x2, x3, x4, x5, x6, x7, x8, x9, x10, x11, x12, x13, x14, rfl⟩
        obtain rfl : x0 = .agg #[.slice (some ⟨b, off, none⟩) C.deeds.length cap, .slice a2 C.sights.length cap2, .int .i64 C.wrong] := by obtain ⟨u, e, h⟩ := hval 0 (by omega) (takeM_not (by decide)); have e2 : some x0 = some u := e; injection e2 with e2; subst e2; exact h
        obtain rfl : x2 = .slice uA first.length uc := by obtain ⟨u, e, h⟩ := hval 2 (by omega) (takeM_not (by decide)); have e2 : some x2 = some u := e; injection e2 with e2; subst e2; exact h
        have k4 : ∃ A, x4 = .slice (some ⟨A, 0, none⟩) 1 1 ∧ Z.heap.size ≤ A ∧ W2.heap[A]? = some (.cells #[.int .i64 0] 3) := by obtain ⟨u, e, h⟩ := hval 4 (by omega) (takeM_not (by decide)); have e2 : some x4 = some u := e; injection e2 with e2; subst e2; exact h
        obtain rfl : x7 = .agg #[.slice (some ⟨b, off, none⟩) C.deeds.length cap, .slice a2 C.sights.length cap2, .int .i64 C.wrong] := by obtain ⟨u, e, h⟩ := hval 7 (by omega) (takeM_not (by decide)); have e2 : some x7 = some u := e; injection e2 with e2; subst e2; exact h
        obtain rfl : x9 = .slice uA first.length uc := by obtain ⟨u, e, h⟩ := hval 9 (by omega) (takeM_not (by decide)); have e2 : some x9 = some u := e; injection e2 with e2; subst e2; exact h
        have k11 : ∃ A, x11 = .slice (some ⟨A, 0, none⟩) 1 1 ∧ Z.heap.size ≤ A ∧ W2.heap[A]? = some (.cells #[.int .i64 1] 3) := by obtain ⟨u, e, h⟩ := hval 11 (by omega) (takeM_not (by decide)); have e2 : some x11 = some u := e; injection e2 with e2; subst e2; exact h
        have k14 : ListsAt W2 Z.heap.size x14 ((choicesFrom C.deeds (first ++ [0])) ++ (choicesFrom C.deeds (first ++ [1]))) ∧ ∀ b, (x14 : Value).ownBlock = some b ∨ Inner W2 x14 b → Z.heap.size ≤ b := by obtain ⟨u, e, h⟩ := hval 14 (by omega) (takeM_not (by decide)); have e2 : some x14 = some u := e; injection e2 with e2; subst e2; exact h
        clear hval hvl
        have HBX := Lib.hid (show Below w.heap.size w W2 from HS0.out.b.trans ((⟨hbx.os, hbx.tape, hbx.output, hbx.size, fun k hk => hbx.block k hk (by show ¬ Z.heap.size ≤ k; omega)⟩ : Below Z.heap.size Z W2).mono hZs))
        have HL := Lib.hid k14
        clear hbx k14 k4 k11
        simp only [putL, Act.put, List.drop, List.setIfInBounds_toArray, List.set_cons_zero, List.set_cons_succ]
        go_wp2
        go_ret
        exact ⟨_, rfl, by rw [HC1.out]; exact HL.out.1.lower hZs, fun b hb => .inl (Nat.le_trans hZs (HL.out.2 b hb)), HBX.out⟩

end Go.Proofs.Ytgjikoebneiamaa
