/-
  Levers, the law's reference: the load in a setting, which balances are right in it, whether a load is pulled.
-/
import Derived.Test.YtomcjopcfdllgaaVRef3
import Derived.Test.YtomcjopcfdllgaaVStart
import Derived.Test.YtomcjopcfdllgaaVFactsK

namespace Go.Proofs.Ytomcjopcfdllgaa
open Go.RowKit Go.Shelf

attribute [local go_sem high] run_mn2a run_mx2a
/-- A setting of a machine: an arm for each lever, a leak. -/
def InSet (M : Mach) (x : List Int) (k : Int) : Prop := x.length = M.levers.length ∧ (∀ i, i < x.length → 1 ≤ nth x i ∧ nth x i ≤ 1000) ∧ 0 ≤ k ∧ k ≤ 20
theorem inSet_of {M : Mach} (hV : ValidM M) {s : List Int × Int} (hs : s ∈ setsM M) : InSet M s.1 s.2 := by
  obtain ⟨h1, h2⟩ := mem_sets.1 hs
  obtain ⟨h3, h4⟩ := arms_pad h1
  refine ⟨h3, fun i hi => ?_, by have := hV.leak; omega, by have := hV.leak; omega⟩
  have e : pad s.1 i = nth s.1 i := by simp [pad, nth, List.getD, hi]
  have h5 := h4 i
  have h6 := short_ok hV i
  rw [← e]
  omega
theorem prod_take {x : List Int} {i : Nat} (h : i < x.length) : prodL (x.take (i + 1)) = prodL (x.take i) * nth x i := by
  rw [take_next h]
  simp [prodL]
theorem prod_inS {x : List Int} (hx : ∀ i, i < x.length → 1 ≤ nth x i ∧ nth x i ≤ 1000) : ∀ i, i ≤ x.length → 1 ≤ prodL (x.take i) ∧ prodL (x.take i) ≤ (1000 ^ i : Nat)
  | 0, _ => by simp [prodL]
  | i + 1, h => by
    obtain ⟨h1, h2⟩ := prod_inS hx i (by omega)
    obtain ⟨h3, h4⟩ := hx i (by omega)
    rw [prod_take (by omega)]
    refine ⟨?_, ?_⟩
    · have := Int.mul_le_mul h1 h3 (by omega) (by omega)
      omega
    · have h5 := mul_mono (by omega) (by omega) h2 h4
      rw [Nat.pow_succ, Int.natCast_mul]
      exact h5
theorem prod_three {M : Mach} (hV : ValidM M) {x : List Int} {k : Int} (h : InSet M x k) : ∀ i, i ≤ x.length → 1 ≤ prodL (x.take i) ∧ prodL (x.take i) ≤ 1000000000 := by
  intro i hi
  obtain ⟨h1, h2⟩ := prod_inS h.2.1 i hi
  have h3 := hV.nl
  have h4 : i ≤ 3 := by have := h.1; omega
  have h5 : 1000 ^ i ≤ 1000 ^ 3 := Nat.pow_le_pow_right (by omega) h4
  omega
theorem long_next {M : Mach} {i : Nat} (h : i < M.levers.length) : longP (M.levers.take (i + 1)) = longP (M.levers.take i) * (lnth M.levers i).long := long_succ h
theorem cells2S {W : World} {b : Nat} {v0 v1 : Value} {t : TypeId} (e : W.heap[b]? = some (.cells #[v0, v1] t)) : W.cell? ⟨b, 0, none⟩ = some v0 ∧ W.cell? ⟨b, 1, none⟩ = some v1 := cell2_of e
theorem levs_cells {B : Nat} {w : World} {M : Mach} {a : Option Addr} {cap : Nat} {v1 v2 v3 v4 v5 : Value} (h : MachAt B w (.agg #[.slice a M.levers.length cap, v1, v2, v3, v4, v5]) M) (hn : 0 < M.levers.length) :
    ∃ bb off, a = some ⟨bb, off, none⟩ ∧ bb < B ∧ ∀ i, i < M.levers.length → Three w bb (off + i * 3) (lnth M.levers i).long (lnth M.levers i).lo (lnth M.levers i).hi := by
  obtain ⟨lv, bv, hv, ⟨a', cap', b, off, rfl, _, _, ha, hc, _⟩, _⟩ := h
  injection hv with hv
  injection hv with hv
  injection hv with h1 _
  injection h1 with h1 _ _
  subst h1
  exact ⟨b, off, (ha hn).1, (ha hn).2, hc⟩
theorem bals_cells {B : Nat} {w : World} {M : Mach} {a2 : Option Addr} {cap2 : Nat} {v0 v1 v2 v3 v5 : Value} (h : MachAt B w (.agg #[v0, v1, v2, v3, .slice a2 M.bals.length cap2, v5]) M) (hn : 0 < M.bals.length) :
    ∃ bb off, a2 = some ⟨bb, off, none⟩ ∧ bb < B ∧ ∀ i, i < M.bals.length → Four w bb (off + i * 4) (bnth M.bals i).weight (bnth M.bals i).minutes (bnth M.bals i).load (bnth M.bals i).off := by
  obtain ⟨lv, bv, hv, _, ⟨a', cap', b, off, rfl, _, _, ha, hc, _⟩, _⟩ := h
  injection hv with hv
  injection hv with hv
  injection hv with _ hv
  injection hv with _ hv
  injection hv with _ hv
  injection hv with _ hv
  injection hv with h1 _
  injection h1 with h1 _ _
  subst h1
  exact ⟨b, off, (ha hn).1, (ha hn).2, hc⟩
theorem ints_cells {B : Nat} {w : World} {sa : Option Addr} {sc : Nat} {x : List Int} (h : IntsAt B w (.slice sa x.length sc) x) (hn : 0 < x.length) : ∃ sb so, sa = some ⟨sb, so, none⟩ ∧ sb < B ∧ ∀ i, i < x.length → w.cell? ⟨sb, so + i, none⟩ = some (.int .i64 (nth x i)) := by
  obtain ⟨a', cap', b, off, hv, _, _, ha, hc, _⟩ := h
  injection hv with h1 _ _
  subst h1
  exact ⟨b, off, (ha hn).1, (ha hn).2, hc⟩

set_option maxRecDepth 100000 in
set_option maxHeartbeats 4000000 in
theorem LoadOf_any (v : Value) (M : Mach) (sv : Value) (x : List Int) (k weight minutes : Int) (w : World) (hx : MachAt w.heap.size w v M) (hV : ValidM M) (hs : IntsAt w.heap.size w sv x) (hin : InSet M x k) (hw : 0 ≤ weight ∧ weight ≤ 9999) (hm : 0 ≤ minutes ∧ minutes ≤ 99) :
    Calls Try.prog 25 #[v, .agg #[sv, .int .i64 k], .int .i64 weight, .int .i64 minutes] w fun e w' => e = .returned (.tuple #[.int .i64 (force M weight minutes k), .int .i64 (prodL x)]) ∧ Below w.heap.size w w' := by
  have HMX := Lib.hid hx
  obtain ⟨a, cap, a2, cap2, rfl⟩ := hx.form
  obtain ⟨sa, sc, sb0, so0, rfl, _⟩ := id hs
  have HSX := Lib.hid hs
  have HLEN := Lib.hid hin.1
  have hnl := hV.nl
  have hk := hin.2.2
  have hwt := hV.water
  have HPX := Lib.hid (fun i (h : i ≤ x.length) => prod_three hV hin i h)
  have HIN := Lib.hid hin.2.1
  obtain ⟨ml, hml⟩ : ∃ ml, minutes * k = ml := ⟨_, rfl⟩
  have m1 : 0 ≤ ml := hml ▸ Int.mul_nonneg hm.1 hk.1
  have m2 : ml ≤ 99 * 20 := hml ▸ mul_mono hm.1 hk.1 hm.2 hk.2
  obtain ⟨N0, hN0⟩ : ∃ N0, weight + max 0 (M.water - ml) = N0 := ⟨_, rfl⟩
  have n1 : 0 ≤ N0 ∧ N0 ≤ 19998 := by omega
  have hf : force M weight minutes k = N0 * longP M.levers := by
    unfold force
    rw [hml, show max (M.water - ml) 0 = max 0 (M.water - ml) by omega, hN0]
  have HL := Lib.hid (fun i => show 0 ≤ N0 * longP (M.levers.take i) ∧ N0 * longP (M.levers.take i) ≤ 19998 * 1000000000 from by
    obtain ⟨l1, l2⟩ := long_take hV i
    exact ⟨Int.mul_nonneg n1.1 l1, mul_mono n1.1 l1 n1.2 l2⟩)
  have w1 : wrap64 (minutes * k) = ml := by rw [hml]; exact wrap_in (by omega)
  have w1' : IntKind.i64.wrap (minutes * k) = ml := by rw [hml]; exact IntWalk.i64_in _ (by omega)
  have w2 : wrap64 (M.water - ml) = M.water - ml := wrap_in (by omega)
  have w2' : IntKind.i64.wrap (M.water - ml) = M.water - ml := IntWalk.i64_in _ (by omega)
  have w3 : wrap64 (weight + max 0 (M.water - ml)) = N0 := by rw [hN0]; exact wrap_in (by omega)
  have w3' : IntKind.i64.wrap (weight + max 0 (M.water - ml)) = N0 := by rw [hN0]; exact IntWalk.i64_in _ (by omega)
  have HF := Lib.hid hf
  clear hx hs hin hV hf hml
  go_enter Try.func25, Try.ntmps25
  go_upto_region 2 with fail
  obtain ⟨W, hW⟩ : ∃ W, W = (w.alloc (.cells #[.slice a M.levers.length cap, .int .i64 M.water, .int .i64 M.lkLo, .int .i64 M.lkHi, .slice a2 M.bals.length cap2, .int .i64 M.wrong] 27)).alloc (.cells #[.slice sa x.length sc, .int .i64 k] 30) := ⟨_, rfl⟩
  have hb : Below w.heap.size w W := by rw [hW]; exact ((Below.refl _ w).alloc (Nat.le_refl _) _).alloc (by simp) _
  have e0 : W.heap[w.heap.size]? = some (.cells #[.slice a M.levers.length cap, .int .i64 M.water, .int .i64 M.lkLo, .int .i64 M.lkHi, .slice a2 M.bals.length cap2, .int .i64 M.wrong] 27) := by rw [hW]; exact heap_old1 _ _ _
  have e1 : W.heap[w.heap.size + 1]? = some (.cells #[.slice sa x.length sc, .int .i64 k] 30) := by rw [hW]; exact heap_new1 _ _ _
  rw [← hW]
  have HB := Lib.hid hb
  have HMW := Lib.hid (HMX.out.below hb)
  have HSW := Lib.hid (HSX.out.below hb)
  clear hW hb w1 w1' w2 w2' w3 w3' hN0
  obtain ⟨c0, c1, c2, c3, c4, c5⟩ := cells6 e0
  obtain ⟨s0, s1⟩ := cells2S e1
  clear e0 e1
  go_wp2_with fail
  go_loopw [8, 9, 10] (fun vn vd vi wr => ∃ i : Nat, i ≤ M.levers.length ∧ vi = .int .i64 (i : Nat) ∧ vn = .int .i64 (N0 * longP (M.levers.take i)) ∧ vd = .int .i64 (prodL (x.take i)) ∧ Hid (wr = W)) (fun _ _ vi _ => M.levers.length - (intOf vi).toNat)
  case atStart => exact ⟨0, Nat.zero_le _, rfl, by simp [longP], by simp [prodL], Lib.hid rfl⟩
  case round =>
    obtain ⟨i, hi, rfl, rfl, rfl, hwr⟩ := hrel
    have hwr := hwr.out
    subst hwr
    by_cases hlt : i < M.levers.length
    · have hix : i < x.length := by have := HLEN.out; omega
      obtain ⟨bb, off, rfl, hbb, hcl⟩ := levs_cells HMW.out (by omega)
      obtain ⟨sb, so, rfl, hsb, hcs⟩ := ints_cells HSW.out (by omega)
      obtain ⟨y0, y1, y2⟩ := hcl i hlt
      have y3 := hcs i (by omega)
      have hl := long_next (M := M) hlt
      have hp := prod_take (x := x) (i := i) (by omega)
      have b1 := HL.out (i + 1)
      have b2 := HPX.out (i + 1) (by omega)
      obtain ⟨LI, hLI⟩ : ∃ LI, (lnth M.levers i).long = LI := ⟨_, rfl⟩
      obtain ⟨XI, hXI⟩ : ∃ XI, nth x i = XI := ⟨_, rfl⟩
      rw [hLI] at y0 hl
      rw [hXI] at y3 hp
      rw [hl, ← Int.mul_assoc] at b1
      rw [hp] at b2
      obtain ⟨NA, hNA⟩ : ∃ NA, N0 * longP (M.levers.take i) = NA := ⟨_, rfl⟩
      obtain ⟨PA, hPA⟩ : ∃ PA, prodL (x.take i) = PA := ⟨_, rfl⟩
      rw [hNA] at b1 ⊢
      rw [hPA] at b2 hp ⊢
      obtain ⟨NB, hNB⟩ : ∃ NB, NA * LI = NB := ⟨_, rfl⟩
      obtain ⟨PB, hPB⟩ : ∃ PB, PA * XI = PB := ⟨_, rfl⟩
      have q1 : wrap64 (NA * LI) = NB := by rw [hNB] at b1 ⊢; exact wrap_in (by omega)
      have q2 : wrap64 (PA * XI) = PB := by rw [hPB] at b2 ⊢; exact wrap_in (by omega)
      have q1' : IntKind.i64.wrap (NA * LI) = NB := by rw [hNB] at b1 ⊢; exact IntWalk.i64_in _ (by omega)
      have q2' : IntKind.i64.wrap (PA * XI) = PB := by rw [hPB] at b2 ⊢; exact IntWalk.i64_in _ (by omega)
      have HN2 := Lib.hid (show N0 * longP (M.levers.take (i + 1)) = NB by rw [hl, ← Int.mul_assoc, hNA, hNB])
      have HP2 := Lib.hid (show prodL (x.take (i + 1)) = PB by rw [hp, hPB])
      clear hl hp b1 b2 hNA hPA hNB hPB hcl hcs hLI hXI
      go_wp2
      exact ⟨⟨i + 1, by omega, by go_num, by rw [HN2.out], by rw [HP2.out], Lib.hid trivial⟩, by simp [intOf]; omega⟩
    · have hie : i = M.levers.length := by omega
      have e1 : N0 * longP (M.levers.take i) = force M weight minutes k := by rw [HF.out, hie, List.take_length]
      have e2 : prodL (x.take i) = prodL x := by rw [List.take_of_length_le (by have := HLEN.out; omega)]
      rw [e1, e2]
      have hif : ¬ ((i : Nat) : Int) < ((M.levers.length : Nat) : Int) := by omega
      clear e1 e2 hie
      go_wp2
      go_ret2
      exact ⟨rfl, HB.out⟩
set_option maxRecDepth 100000 in
set_option maxHeartbeats 4000000 in
theorem uIsRight_any (v : Value) (M : Mach) (sv : Value) (x : List Int) (k : Int) (b : Bal) (w : World) (hx : MachAt w.heap.size w v M) (hV : ValidM M) (hs : IntsAt w.heap.size w sv x) (hin : InSet M x k) (hb : b ∈ M.bals) :
    Calls Try.prog 24 #[v, .agg #[sv, .int .i64 k], bV b] w fun e w' => e = .returned (.bool (rightP M k (prodL x) b)) ∧ Below w.heap.size w w' := by
  have hbo := hV.bal b hb
  have hpx := prod_three hV hin x.length (Nat.le_refl _)
  rw [List.take_length] at hpx
  have hfo := force_ok hV (minutes := b.minutes) (leak := k) hbo.1 hbo.2.1.1 hin.2.2.1
  have HLO := Lib.hid (fun W (hb : Below w.heap.size w W) => LoadOf_any v M sv x k b.weight b.minutes W ((hx.below hb).mono hb.size) hV ((hs.below hb).mono hb.size) hin hbo.1 hbo.2.1)
  obtain ⟨a, cap, a2, cap2, rfl⟩ := hx.form
  obtain ⟨sa, sc, sb0, so0, rfl, _⟩ := id hs
  obtain ⟨x0, x1, x2, x3⟩ := b
  dsimp only at hbo hfo HLO
  obtain ⟨PX, hPX⟩ : ∃ PX, prodL x = PX := ⟨_, rfl⟩
  obtain ⟨FO, hFO⟩ : ∃ FO, force M x0 x1 k = FO := ⟨_, rfl⟩
  have hr : rightP M k (prodL x) ⟨x0, x1, x2, x3⟩ = decide (max (FO - x2 * PX) (-(FO - x2 * PX)) ≤ x3 * PX) := by
    unfold rightP
    dsimp only
    rw [hFO, hPX, Bool.eq_iff_iff, Bool.and_eq_true, decide_eq_true_eq, decide_eq_true_eq, decide_eq_true_eq, Int.sub_mul, Int.add_mul]
    omega
  rw [hr]
  rw [hPX] at hpx HLO
  rw [hFO] at hfo HLO
  have b1 : 0 ≤ x2 * PX := Int.mul_nonneg hbo.2.2.1.1 (by omega)
  have b2 : x2 * PX ≤ 999999999 * 1000000000 := mul_mono hbo.2.2.1.1 (by omega) hbo.2.2.1.2 hpx.2
  have b3 : 0 ≤ x3 * PX := Int.mul_nonneg hbo.2.2.2.1 (by omega)
  have b4 : x3 * PX ≤ 999999999 * 1000000000 := mul_mono hbo.2.2.2.1 (by omega) hbo.2.2.2.2 hpx.2
  obtain ⟨LP, hLP⟩ : ∃ LP, x2 * PX = LP := ⟨_, rfl⟩
  obtain ⟨OP, hOP⟩ : ∃ OP, x3 * PX = OP := ⟨_, rfl⟩
  have q1 : wrap64 (x2 * PX) = LP := by rw [hLP] at b1 b2 ⊢; exact wrap_in (by omega)
  have q1' : IntKind.i64.wrap (x2 * PX) = LP := by rw [hLP] at b1 b2 ⊢; exact IntWalk.i64_in _ (by omega)
  have q2 : wrap64 (x3 * PX) = OP := by rw [hOP] at b3 b4 ⊢; exact wrap_in (by omega)
  have q2' : IntKind.i64.wrap (x3 * PX) = OP := by rw [hOP] at b3 b4 ⊢; exact IntWalk.i64_in _ (by omega)
  rw [hLP] at b1 b2 ⊢
  rw [hOP] at b3 b4 ⊢
  have q3 : wrap64 (FO - LP) = FO - LP := wrap_in (by omega)
  have q3' : IntKind.i64.wrap (FO - LP) = FO - LP := IntWalk.i64_in _ (by omega)
  have q4 : wrap64 (-(FO - LP)) = -(FO - LP) := wrap_in (by omega)
  have q4' : IntKind.i64.wrap (-(FO - LP)) = -(FO - LP) := IntWalk.i64_in _ (by omega)
  clear hx hV hs hin hb hr hPX hFO hLP hOP
  go_enter Try.func24, Try.ntmps24
  go_wp2_with fail
  obtain ⟨W, hW⟩ : ∃ W, W = ((w.alloc (.cells #[.slice a M.levers.length cap, .int .i64 M.water, .int .i64 M.lkLo, .int .i64 M.lkHi, .slice a2 M.bals.length cap2, .int .i64 M.wrong] 27)).alloc (.cells #[.slice sa x.length sc, .int .i64 k] 30)).alloc (.cells #[.int .i64 x0, .int .i64 x1, .int .i64 x2, .int .i64 x3] 51) := ⟨_, rfl⟩
  have h3 := heap3w w (.cells #[.slice a M.levers.length cap, .int .i64 M.water, .int .i64 M.lkLo, .int .i64 M.lkHi, .slice a2 M.bals.length cap2, .int .i64 M.wrong] 27) (.cells #[.slice sa x.length sc, .int .i64 k] 30) (.cells #[.int .i64 x0, .int .i64 x1, .int .i64 x2, .int .i64 x3] 51)
  rw [← hW] at h3 ⊢
  clear hW
  obtain ⟨_, _, e2, hb, hsz⟩ := h3
  refine (HLO.out W hb).mono ?_
  rintro e w1 ⟨rfl, hb1⟩
  obtain ⟨z0, z1, z2, z3⟩ := cells4 ((hb1.block (w.heap.size + 1 + 1) (by omega)).trans e2)
  have HB := Lib.hid (hb.trans (hb1.mono hb.size))
  clear hb hb1 e2 hsz HLO
  go_wp2
  go_ret
  exact ⟨rfl, HB.out⟩
set_option maxRecDepth 100000 in
set_option maxHeartbeats 4000000 in
theorem IsPulled_any (v : Value) (M : Mach) (sv : Value) (x : List Int) (k weight minutes load : Int) (w : World) (hx : MachAt w.heap.size w v M) (hV : ValidM M) (hs : IntsAt w.heap.size w sv x) (hin : InSet M x k) (hw : 0 ≤ weight ∧ weight ≤ 9999) (hm : 0 ≤ minutes ∧ minutes ≤ 99) (hld : 0 ≤ load ∧ load ≤ 999999999) :
    Calls Try.prog 27 #[v, .agg #[sv, .int .i64 k], .int .i64 weight, .int .i64 minutes, .int .i64 load] w fun e w' => e = .returned (.bool (pullsB M weight minutes load k (prodL x))) ∧ Below w.heap.size w w' := by
  have hpx := prod_three hV hin x.length (Nat.le_refl _)
  rw [List.take_length] at hpx
  have hfo := force_ok hV (minutes := minutes) (leak := k) hw hm.1 hin.2.2.1
  have HLO := Lib.hid (fun W (hb : Below w.heap.size w W) => LoadOf_any v M sv x k weight minutes W ((hx.below hb).mono hb.size) hV ((hs.below hb).mono hb.size) hin hw hm)
  obtain ⟨a, cap, a2, cap2, rfl⟩ := hx.form
  obtain ⟨sa, sc, sb0, so0, rfl, _⟩ := id hs
  obtain ⟨PX, hPX⟩ : ∃ PX, prodL x = PX := ⟨_, rfl⟩
  obtain ⟨FO, hFO⟩ : ∃ FO, force M weight minutes k = FO := ⟨_, rfl⟩
  unfold pullsB
  rw [hPX] at hpx HLO ⊢
  rw [hFO] at hfo HLO ⊢
  have b1 : 0 ≤ load * PX := Int.mul_nonneg hld.1 (by omega)
  have b2 : load * PX ≤ 999999999 * 1000000000 := mul_mono hld.1 (by omega) hld.2 hpx.2
  obtain ⟨LP, hLP⟩ : ∃ LP, load * PX = LP := ⟨_, rfl⟩
  have q1 : wrap64 (load * PX) = LP := by rw [hLP] at b1 b2 ⊢; exact wrap_in (by omega)
  have q1' : IntKind.i64.wrap (load * PX) = LP := by rw [hLP] at b1 b2 ⊢; exact IntWalk.i64_in _ (by omega)
  rw [hLP]
  clear hx hV hs hin hPX hFO hLP
  go_enter Try.func27, Try.ntmps27
  go_wp2_with fail
  refine (HLO.out _ (((Below.refl _ w).alloc (Nat.le_refl _) _).alloc (by simp) _)).mono ?_
  rintro e w1 ⟨rfl, hb1⟩
  have HB := Lib.hid ((((Below.refl _ w).alloc (Nat.le_refl _) _).alloc (by simp) _).trans (hb1.mono (by simp; omega)))
  clear hb1 HLO
  go_wp2
  go_ret
  exact ⟨rfl, HB.out⟩
set_option maxRecDepth 100000 in
set_option maxHeartbeats 8000000 in
theorem Wrongs_any (v : Value) (M : Mach) (sv : Value) (x : List Int) (k : Int) (w : World) (hx : MachAt w.heap.size w v M) (hV : ValidM M) (hs : IntsAt w.heap.size w sv x) (hin : InSet M x k) :
    Calls Try.prog 23 #[v, .agg #[sv, .int .i64 k]] w fun e w' => e = .returned (.int .i64 (wrongsP M k (prodL x) : Nat)) ∧ Below w.heap.size w w' := by
  have HRR := Lib.hid (fun (b : Bal) (hb0 : b ∈ M.bals) W (hb : Below w.heap.size w W) => uIsRight_any v M sv x k b W ((hx.below hb).mono hb.size) hV ((hs.below hb).mono hb.size) hin hb0)
  have HMX := Lib.hid hx
  obtain ⟨a, cap, a2, cap2, rfl⟩ := hx.form
  obtain ⟨sa, sc, sb0, so0, rfl, _⟩ := id hs
  have hnb := hV.nb
  clear hx hs hin hV
  go_enter Try.func23, Try.ntmps23
  go_upto_region 1 with fail
  obtain ⟨W0, hW⟩ : ∃ W0, W0 = (w.alloc (.cells #[.slice a M.levers.length cap, .int .i64 M.water, .int .i64 M.lkLo, .int .i64 M.lkHi, .slice a2 M.bals.length cap2, .int .i64 M.wrong] 27)).alloc (.cells #[.slice sa x.length sc, .int .i64 k] 30) := ⟨_, rfl⟩
  have hb : Below w.heap.size w W0 := by rw [hW]; exact ((Below.refl _ w).alloc (Nat.le_refl _) _).alloc (by simp) _
  have hsz : W0.heap.size = w.heap.size + 2 := by rw [hW]; simp
  have e0 : W0.heap[w.heap.size]? = some (.cells #[.slice a M.levers.length cap, .int .i64 M.water, .int .i64 M.lkLo, .int .i64 M.lkHi, .slice a2 M.bals.length cap2, .int .i64 M.wrong] 27) := by rw [hW]; exact heap_old1 _ _ _
  have e1 : W0.heap[w.heap.size + 1]? = some (.cells #[.slice sa x.length sc, .int .i64 k] 30) := by rw [hW]; exact heap_new1 _ _ _
  rw [← hW]
  clear hW
  have HB := Lib.hid hb
  have HC := Lib.hid (fun X (hX : Below W0.heap.size W0 X) => (show _ ∧ _ from ⟨cells6 ((hX.block w.heap.size (by omega)).trans e0), cells2S ((hX.block (w.heap.size + 1) (by omega)).trans e1)⟩))
  have HRR2 := Lib.hid (fun (b : Bal) (hb0 : b ∈ M.bals) X (hX : Below W0.heap.size W0 X) => HRR.out b hb0 X (hb.trans (hX.mono hb.size)))
  have HMW := Lib.hid (fun X (hX : Below W0.heap.size W0 X) => HMX.out.below (hb.trans (hX.mono hb.size)))
  clear e0 e1 hb hsz HRR
  go_wp2_with fail
  go_loopw [5, 6] (fun vn vi wr => ∃ i : Nat, i ≤ M.bals.length ∧ vi = .int .i64 (i : Nat) ∧ vn = .int .i64 (notTo M k (prodL x) i : Nat) ∧ Hid (Below W0.heap.size W0 wr)) (fun _ vi _ => M.bals.length - (intOf vi).toNat)
  case atStart => exact ⟨0, Nat.zero_le _, rfl, rfl, Lib.hid (Below.refl _ _)⟩
  case round =>
    obtain ⟨i, hi, rfl, rfl, hb0⟩ := hrel
    obtain ⟨⟨c0, c1, c2, c3, c4, c5⟩, s0, s1⟩ := HC.out wr hb0.out
    by_cases hlt : i < M.bals.length
    · obtain ⟨bb, off, rfl, hbb, _⟩ := bals_cells (HMW.out wr hb0.out) (by omega)
      have HB4 := Lib.hid (fun X (hX : Below W0.heap.size W0 X) => (show Four X bb (off + i * 4) (bnth M.bals i).weight (bnth M.bals i).minutes (bnth M.bals i).load (bnth M.bals i).off from by
        obtain ⟨bb', off', e, _, hc⟩ := bals_cells (HMW.out X hX) (by omega)
        injection e with e
        injection e with e1 e2
        subst e1 e2
        exact hc i hlt))
      have HR := Lib.hid (fun X (hX : Below W0.heap.size W0 X) => HRR2.out (bnth M.bals i) (by rw [bnth_lt hlt]; exact List.getElem_mem hlt) X hX)
      have hsu := notTo_succ (leak := k) (P := prodL x) hlt
      have hnl := notTo_le M k (prodL x) i
      obtain ⟨rb, hrb⟩ : ∃ rb, rightP M k (prodL x) (bnth M.bals i) = rb := ⟨_, rfl⟩
      rw [hrb] at HR hsu
      have HSU := Lib.hid hsu
      clear hsu hrb
      go_upto_region 5 with fail
      refine wp_region_facts _ 9 [14, 15, 16, 17, 18, 19, 20, 21, 22] [isV (.agg #[.slice a M.levers.length cap, .int .i64 M.water, .int .i64 M.lkLo, .int .i64 M.lkHi, .slice (some ⟨bb, off, none⟩) M.bals.length cap2, .int .i64 M.wrong]), isV (.agg #[.slice sa x.length sc, .int .i64 k]), isV (.pointer (some ⟨w.heap.size, 4, none⟩)), isV (.slice (some ⟨bb, off, none⟩) M.bals.length cap2), isV (.int .i64 (i : Nat)), isV (.pointer (some ⟨bb, off + i * 4, none⟩)), isV (bV (bnth M.bals i)), ⟨fun v W => v = .bool rb, fun _ _ _ h _ => h⟩, isV (.bool (!rb))] (by kernel_rfl) (by kernel_rfl) (by kernel_rfl) rfl (by decide) (by decide) (by simp) ?step ?rest
      case step =>
        intro i ac W d hi hd hb hoff hdep
        obtain ⟨⟨c0, c1, c2, c3, c4, c5⟩, s0, s1⟩ := HC.out W (hb0.out.trans (hb.mono hb0.out.size))
        obtain ⟨y0, y1, y2, y3⟩ := HB4.out W (hb0.out.trans (hb.mono hb0.out.size))
        have hi2 : i = 0 ∨ i = 1 ∨ i = 2 ∨ i = 3 ∨ i = 4 ∨ i = 5 ∨ i = 6 ∨ i = 7 ∨ i = 8 := by omega
        rcases hi2 with rfl | rfl | rfl | rfl | rfl | rfl | rfl | rfl | rfl
        · obtain rfl : 14 = d := by simpa using hd
          have q2 : ac.tmps[2]?.getD undef = .pointer (some ⟨w.heap.size, 0, none⟩) := (eval_tmp _ _).symm.trans <| (hoff 2 (by decide)).trans rfl
          refine fact_value rfl rfl rfl (v := .agg #[.slice a M.levers.length cap, .int .i64 M.water, .int .i64 M.lkLo, .int .i64 M.lkHi, .slice (some ⟨bb, off, none⟩) M.bals.length cap2, .int .i64 M.wrong]) (W' := W) ?_ (Below.refl _ _) rfl
          simp only [execOp]
          go_simp
        · obtain rfl : 15 = d := by simpa using hd
          have q3 : ac.tmps[3]?.getD undef = .pointer (some ⟨w.heap.size + 1, 0, none⟩) := (eval_tmp _ _).symm.trans <| (hoff 3 (by decide)).trans rfl
          refine fact_value rfl rfl rfl (v := .agg #[.slice sa x.length sc, .int .i64 k]) (W' := W) ?_ (Below.refl _ _) rfl
          simp only [execOp]
          go_simp
        · obtain rfl : 16 = d := by simpa using hd
          have q2 : ac.tmps[2]?.getD undef = .pointer (some ⟨w.heap.size, 0, none⟩) := (eval_tmp _ _).symm.trans <| (hoff 2 (by decide)).trans rfl
          refine fact_value rfl rfl rfl (v := .pointer (some ⟨w.heap.size, 4, none⟩)) (W' := W) ?_ (Below.refl _ _) rfl
          simp only [execOp]
          go_simp
        · obtain rfl : 17 = d := by simpa using hd
          have q16 : ac.tmps[16]?.getD undef = .pointer (some ⟨w.heap.size, 4, none⟩) := (eval_tmp _ _).symm.trans (hdep 2 16 rfl rfl)
          refine fact_value rfl rfl rfl (v := .slice (some ⟨bb, off, none⟩) M.bals.length cap2) (W' := W) ?_ (Below.refl _ _) rfl
          simp only [execOp]
          go_simp
        · obtain rfl : 18 = d := by simpa using hd
          have q6 : ac.tmps[6]?.getD undef = .int .i64 (i : Nat) := (eval_tmp _ _).symm.trans <| (hoff 6 (by decide)).trans rfl
          refine fact_value rfl rfl rfl (v := .int .i64 (i : Nat)) (W' := W) ?_ (Below.refl _ _) rfl
          simp only [execOp]
          go_simp
        · obtain rfl : 19 = d := by simpa using hd
          have q17 : ac.tmps[17]?.getD undef = .slice (some ⟨bb, off, none⟩) M.bals.length cap2 := (eval_tmp _ _).symm.trans (hdep 3 17 rfl rfl)
          have q18 : ac.tmps[18]?.getD undef = .int .i64 (i : Nat) := (eval_tmp _ _).symm.trans (hdep 4 18 rfl rfl)
          refine fact_value rfl rfl rfl (v := .pointer (some ⟨bb, off + i * 4, none⟩)) (W' := W) ?_ (Below.refl _ _) rfl
          simp only [execOp]
          go_simp
        · obtain rfl : 20 = d := by simpa using hd
          have q19 : ac.tmps[19]?.getD undef = .pointer (some ⟨bb, off + i * 4, none⟩) := (eval_tmp _ _).symm.trans (hdep 5 19 rfl rfl)
          refine fact_value rfl rfl rfl (v := bV (bnth M.bals i)) (W' := W) ?_ (Below.refl _ _) rfl
          simp only [execOp]
          go_simp
        · obtain rfl : 21 = d := by simpa using hd
          have q14 : ac.tmps[14]?.getD undef = .agg #[.slice a M.levers.length cap, .int .i64 M.water, .int .i64 M.lkLo, .int .i64 M.lkHi, .slice (some ⟨bb, off, none⟩) M.bals.length cap2, .int .i64 M.wrong] := (eval_tmp _ _).symm.trans (hdep 0 14 rfl rfl)
          have q15 : ac.tmps[15]?.getD undef = .agg #[.slice sa x.length sc, .int .i64 k] := (eval_tmp _ _).symm.trans (hdep 1 15 rfl rfl)
          have q20 : ac.tmps[20]?.getD undef = bV (bnth M.bals i) := (eval_tmp _ _).symm.trans (hdep 6 20 rfl rfl)
          refine fact_call rfl rfl rfl (f := 24) (args := #[.agg #[.slice a M.levers.length cap, .int .i64 M.water, .int .i64 M.lkLo, .int .i64 M.lkHi, .slice (some ⟨bb, off, none⟩) M.bals.length cap2, .int .i64 M.wrong], .agg #[.slice sa x.length sc, .int .i64 k], bV (bnth M.bals i)]) ?_ ?_
          · simp only [execOp]
            go_simp
          · refine (HR.out W (hb0.out.trans (hb.mono hb0.out.size))).mono ?_
            rintro e w' ⟨rfl, hb2⟩
            exact ⟨_, rfl, hb2, rfl⟩
        · obtain rfl : 22 = d := by simpa using hd
          have q21 : (ac.tmps[21]?.getD undef) = .bool rb := eval_tmp ac _ ▸ hdep 7 21 rfl rfl
          refine fact_value rfl rfl rfl (v := .bool (!rb)) (W' := W) ?_ (Below.refl _ _) rfl
          simp only [execOp]
          go_simp
      case rest =>
        intro vs W hvl hb hval
        obtain ⟨v0, v1, v2, v3, v4, v5, v6, v7, v8, rfl⟩ : ∃ v0 v1 v2 v3 v4 v5 v6 v7 v8, vs = [v0, v1, v2, v3, v4, v5, v6, v7, v8] := by
          match vs, hvl with
          | [v0, v1, v2, v3, v4, v5, v6, v7, v8], _ => exact ⟨v0, v1, v2, v3, v4, v5, v6, v7, v8, rfl⟩
        obtain rfl : v0 = .agg #[.slice a M.levers.length cap, .int .i64 M.water, .int .i64 M.lkLo, .int .i64 M.lkHi, .slice (some ⟨bb, off, none⟩) M.bals.length cap2, .int .i64 M.wrong] := by obtain ⟨u, e, h⟩ := hval 0 (by omega); have e2 : some v0 = some u := e; injection e2 with e2; subst e2; exact h
        obtain rfl : v1 = .agg #[.slice sa x.length sc, .int .i64 k] := by obtain ⟨u, e, h⟩ := hval 1 (by omega); have e2 : some v1 = some u := e; injection e2 with e2; subst e2; exact h
        obtain rfl : v2 = .pointer (some ⟨w.heap.size, 4, none⟩) := by obtain ⟨u, e, h⟩ := hval 2 (by omega); have e2 : some v2 = some u := e; injection e2 with e2; subst e2; exact h
        obtain rfl : v3 = .slice (some ⟨bb, off, none⟩) M.bals.length cap2 := by obtain ⟨u, e, h⟩ := hval 3 (by omega); have e2 : some v3 = some u := e; injection e2 with e2; subst e2; exact h
        obtain rfl : v4 = .int .i64 (i : Nat) := by obtain ⟨u, e, h⟩ := hval 4 (by omega); have e2 : some v4 = some u := e; injection e2 with e2; subst e2; exact h
        obtain rfl : v5 = .pointer (some ⟨bb, off + i * 4, none⟩) := by obtain ⟨u, e, h⟩ := hval 5 (by omega); have e2 : some v5 = some u := e; injection e2 with e2; subst e2; exact h
        obtain rfl : v6 = bV (bnth M.bals i) := by obtain ⟨u, e, h⟩ := hval 6 (by omega); have e2 : some v6 = some u := e; injection e2 with e2; subst e2; exact h
        have k7 : v7 = .bool rb := by obtain ⟨u, e, h⟩ := hval 7 (by omega); have e2 : some v7 = some u := e; injection e2 with e2; subst e2; exact h
        obtain rfl : v8 = .bool (!rb) := by obtain ⟨u, e, h⟩ := hval 8 (by omega); have e2 : some v8 = some u := e; injection e2 with e2; subst e2; exact h
        clear hval hvl
        simp only [putL, Act.put, List.drop, List.setIfInBounds_toArray, List.set_cons_zero, List.set_cons_succ]
        have HBW := Lib.hid (hb0.out.trans (hb.mono hb0.out.size))
        clear hb k7 c0 c1 c2 c3 c4 c5 s0 s1 HR HB4
        cases rb with
        | true =>
          go_wp2
          exact ⟨⟨i + 1, by omega, by go_num, by rw [HSU.out, if_pos rfl]; rfl, HBW⟩, by simp [intOf]; omega⟩
        | false =>
          go_wp2
          exact ⟨⟨i + 1, by omega, by go_num, by rw [HSU.out, if_neg (by simp)]; go_num, HBW⟩, by simp [intOf]; omega⟩
    · have hie : i = M.bals.length := by omega
      have e1 : notTo M k (prodL x) i = wrongsP M k (prodL x) := by rw [hie]; exact notTo_all M k (prodL x)
      rw [e1]
      have hif : ¬ ((i : Nat) : Int) < ((M.bals.length : Nat) : Int) := by omega
      clear e1 hie
      go_wp2
      go_ret
      exact ⟨rfl, HB.out.trans (hb0.out.mono HB.out.size)⟩
end Go.Proofs.Ytomcjopcfdllgaa
