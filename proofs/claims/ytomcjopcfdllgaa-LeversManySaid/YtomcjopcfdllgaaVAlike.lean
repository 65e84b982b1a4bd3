/-
  Levers, walks: the spans of products within which the same balances are right.
-/
import Derived.Test.YtomcjopcfdllgaaVGroupM
import Derived.Test.YtomcjopcfdllgaaVBelow
import Derived.Deep.DeepCutAuto
import Derived.OwnWalk

namespace Go.Proofs.Ytomcjopcfdllgaa
open Go.RowKit

theorem Try_infoJ : (Try.prog.info? 3).map (fun i => (i.zero, i.size, i.bytes)) = some (some (.int .i64 0), 1, 8) := by kernel_rfl
theorem Try_infoS : (Try.prog.info? 24).map (fun i => (i.zero, i.size, i.bytes)) = some (some (.agg #[.int .i64 0, .int .i64 0]), 2, 16) := by kernel_rfl
theorem grown_kept {v : Value} {w W : World} {o : Obj} (h : (w.alloc o).grownBy W v.ownBlock) : KeptBut (fun b => v.ownBlock = some b) w W :=
  ⟨h.os, h.tape, h.output, Nat.le_trans (by simp) h.size, fun k hk ho => (h.block k (by simp; omega) (fun e => ho e.symm)).trans (Below.heap_alloc w _ _ hk)⟩
theorem grown_below {B base : Nat} {e : TypeId} {size n : Nat} {xs : List Value} {v : Value} {w0 w W : World} {o : Obj} (hb : Below B w0 w) (hB : B ≤ w.heap.size) (hown : w.ownsRow base e size v n xs) (hbase : B ≤ base) (h : (w.alloc o).grownBy W v.ownBlock) : Below B w0 W :=
  hb.trans ((grown_kept h).below hB (fun k hk => by have := (hown.lt k hk).1; omega))
theorem from_two (w : World) (x y : Value) (t : TypeId) : CellsFrom (w.alloc (.cells #[x, y] t)) (some ⟨w.heap.size, 0, none⟩) 1 2 [x, y] := ⟨rfl, fun _ => ⟨_, rfl, World.news_of_block (fr := (0, 0)) (heap_new _ _)⟩⟩
def mn2 (x y : Int) : Int := min x y
theorem run_mn2 {P : Program} (w : World) (ts : Array TypeId) (t : TypeId) (x y : Int) : (Builtin.min_ ts t #[.int .i64 x, .int .i64 y]).run P w = .ok (.int .i64 (mn2 x y)) w := by
  have e : (if y < x then y else x) = mn2 x y := by unfold mn2; split <;> omega
  simp [Builtin.min_, Builtin.min2, e]
attribute [local go_sem high] run_mn2
/-- A row of pairs in a block between lo and B. -/
def ArmsIn (lo B : Nat) (w : World) (v : Value) (ps : List (Int × Int)) : Prop :=
  ∃ a cap b off, v = .slice a ps.length cap ∧ ps.length ≤ cap ∧ cap ≤ maxLen ∧ (0 < ps.length → a = some ⟨b, off, none⟩ ∧ lo ≤ b ∧ b < B) ∧
    ∀ i, i < ps.length → w.cell? ⟨b, off + i * 2, none⟩ = some (.int .i64 (ps.getD i (0, 0)).1) ∧ w.cell? ⟨b, off + i * 2 + 1, none⟩ = some (.int .i64 (ps.getD i (0, 0)).2)
theorem spans_in' {w : World} {base lo : Nat} {v : Value} {ps : List (Int × Int)} (h : w.ownsRow base 24 2 v ps.length (qCells ps)) (hlo : lo ≤ base) : ArmsIn lo w.heap.size w v ps := by
  obtain ⟨_, ⟨rfl, h0⟩ | ⟨g, cap, cur, rfl, hbg, hg, hn, hm, hs, ht⟩⟩ := h
  · exact ⟨none, 0, 0, 0, by rw [h0], by omega, by unfold maxLen; omega, fun h => by omega, fun i hi => by omega⟩
  · refine ⟨_, cap, g, 0, rfl, hn, hm, fun _ => ⟨rfl, by omega, (Array.getElem?_eq_some_iff.1 hg).1⟩, fun i hi => ?_⟩
    have hat := qCells_at ps hi
    rw [← ht] at hat
    rw [List.getElem?_take_of_lt (by omega), List.getElem?_take_of_lt (by omega)] at hat
    simp only [Nat.zero_add, World.cell?, hg, Option.isSome_none, Bool.false_eq_true, if_false]
    rw [Array.getElem?_toList, Array.getElem?_toList] at hat
    exact hat
theorem low_high {M : Mach} (h : ValidM M) : lowP M ≤ highP M := by
  have h0 := short_ok h 0
  have h1 := short_ok h 1
  have h2 := short_ok h 2
  have h4 : (shortOf M.levers 1).1 * (shortOf M.levers 2).1 ≤ (shortOf M.levers 1).2 * (shortOf M.levers 2).2 := mul_mono (by omega) (by omega) (by omega) (by omega)
  have h5 : 0 ≤ (shortOf M.levers 1).1 * (shortOf M.levers 2).1 := Int.mul_nonneg (by omega) (by omega)
  exact mul_mono (by omega) h5 (by omega) h4
theorem mn2_le (x y : Int) : mn2 x y ≤ x ∧ mn2 x y ≤ y ∧ (x ≤ mn2 x y ∨ y ≤ mn2 x y) := by unfold mn2; omega
theorem ints_read {w : World} {A : Option Addr} {n c base : Nat} {xs : List Int} (h : w.ownsRow base 3 1 (.slice A n c) n (xs.map (Value.int .i64))) (hl : xs.length = n) (hn : 0 < n) (hw : ∀ x ∈ xs, I64 x) :
    ∃ b off, A = some ⟨b, off, none⟩ ∧ b < w.heap.size ∧ n ≤ c ∧ c ≤ maxLen ∧ ∀ i, i < n → w.cell? ⟨b, off + i, none⟩ = some (.int .i64 (nth xs i)) := by
  subst hl
  obtain ⟨a, cap, b, off, hv, hlen, hmax, ha, hc, _⟩ := ints_of_own h hw
  injection hv with h1 h2 h3
  subst h1; subst h3
  exact ⟨b, off, (ha hn).1, (ha hn).2, hlen, hmax, hc⟩
theorem take_next {l : List Int} {k : Nat} (h : k < l.length) : l.take (k + 1) = l.take k ++ [nth l k] := by rw [List.take_succ_eq_append_getElem h, nth_lt h]
set_option maxRecDepth 100000 in
set_option maxHeartbeats 8000000 in
theorem alike_any (M : Mach) (hV : ValidM M) (lev : Nat) (pb : Nat) (k0 : Int) (w : World) (hw : WorkAt w.heap.size w pb M lev) (hk0 : 0 ≤ k0 ∧ k0 ≤ 20) :
    Calls Try.prog 81 #[.pointer (some ⟨pb, 0, none⟩), .int .i64 k0] w fun e w' => ∃ v, e = .returned v ∧ ArmsIn w.heap.size w'.heap.size w' v (alikeL M k0) ∧ Below w.heap.size w w' := by
  obtain ⟨hpbl, lv, bv, av, mv, sv, hblk, hbal, _, _, _⟩ := hw
  obtain ⟨ba, bcap, bb, boff, rfl, hblen, hbcap, HBA, HBC, HBI⟩ := hbal
  have HA := Lib.hid HBA
  have HC := Lib.hid HBC
  have hn6 := hV.nb
  have HBX := Lib.hid (fun i (h : i < M.bals.length) => hV.bal (bnth M.bals i) (by rw [bnth_lt h]; exact List.getElem_mem h))
  have HST := Lib.hid (starts_ok hV hk0.1)
  have HFO := Lib.hid (fun (b : Bal) (hb : 0 ≤ b.weight ∧ b.weight ≤ 9999) (hm : 0 ≤ b.minutes) => force_ok hV hb hm hk0.1)
  have s0 := short_ok hV 0
  have s1 := short_ok hV 1
  have s2 := short_ok hV 2
  have hlp := low_pos hV
  obtain ⟨⟨x0, x1, x2⟩, y0, y1, y2⟩ := And.intro (And.intro s0 (And.intro s1 s2)) (And.intro s0 (And.intro s1 s2))
  obtain ⟨c0, c1, c2, c3⟩ := cells20 hblk
  have hwater := c0.2.1
  have hbals := c0.2.2.2.2.1
  have hlong := c2.1
  obtain ⟨c6, c7, c8, c9, c10, c11⟩ := c1
  have HF := Lib.hid (fun (x y : Int) (W : World) (hW : Below w.heap.size w W) (hx : 0 ≤ x ∧ x ≤ 9999) (hy : 0 ≤ y ∧ y ≤ 99) => force_any M hV pb x y k0 W hx hy hk0 ((hW.cell (p := ⟨pb, 1, none⟩) hpbl).trans hwater) ((hW.cell (p := ⟨pb, 12, none⟩) hpbl).trans hlong))
  have HB4 := Lib.hid (fun (W : World) (hW : Below w.heap.size w W) => (hW.cell (p := ⟨pb, 4, none⟩) hpbl).trans hbals)
  have hmulL : partP (shortOf M.levers 0).1 (shortOf M.levers 1).1 (shortOf M.levers 2).1 3 = lowP M := Int.mul_assoc _ _ _
  have hmulH : partP (shortOf M.levers 0).2 (shortOf M.levers 1).2 (shortOf M.levers 2).2 3 = highP M := Int.mul_assoc _ _ _
  obtain ⟨a0, ha0⟩ : ∃ a, (shortOf M.levers 0).1 = a := ⟨_, rfl⟩
  obtain ⟨a1, ha1⟩ : ∃ a, (shortOf M.levers 1).1 = a := ⟨_, rfl⟩
  obtain ⟨a2, ha2⟩ : ∃ a, (shortOf M.levers 2).1 = a := ⟨_, rfl⟩
  obtain ⟨b0, hb0⟩ : ∃ a, (shortOf M.levers 0).2 = a := ⟨_, rfl⟩
  obtain ⟨b1, hb1⟩ : ∃ a, (shortOf M.levers 1).2 = a := ⟨_, rfl⟩
  obtain ⟨b2, hb2⟩ : ∃ a, (shortOf M.levers 2).2 = a := ⟨_, rfl⟩
  rw [ha0, ha1, ha2] at hmulL
  rw [hb0, hb1, hb2] at hmulH
  rw [ha0] at c6 s0
  rw [hb0] at c7 s0
  rw [ha1] at c8 s1
  rw [hb1] at c9 s1
  rw [ha2] at c10 s2
  rw [hb2] at c11 s2
  clear hblk c0 c2 c3 hwater hbals hlong HBA HBC HBI x0 x1 x2 y0 y1 y2 ha0 ha1 ha2 hb0 hb1 hb2
  have p1 : 0 ≤ a0 * a1 ∧ a0 * a1 ≤ 1000000 := ⟨Int.mul_nonneg (by omega) (by omega), mul_mono (b := 1000) (y := 1000) (by omega) (by omega) (by omega) (by omega)⟩
  have p2 : 0 ≤ a0 * a1 * a2 ∧ a0 * a1 * a2 ≤ 1000000000 := ⟨Int.mul_nonneg p1.1 (by omega), mul_mono (b := 1000000) (y := 1000) p1.1 (by omega) p1.2 (by omega)⟩
  have p3 : 0 ≤ b0 * b1 ∧ b0 * b1 ≤ 1000000 := ⟨Int.mul_nonneg (by omega) (by omega), mul_mono (b := 1000) (y := 1000) (by omega) (by omega) (by omega) (by omega)⟩
  have p4 : 0 ≤ b0 * b1 * b2 ∧ b0 * b1 * b2 ≤ 1000000000 := ⟨Int.mul_nonneg p3.1 (by omega), mul_mono (b := 1000000) (y := 1000) p3.1 (by omega) p3.2 (by omega)⟩
  have hHi : 0 ≤ highP M ∧ highP M ≤ 1000000000 := by rw [← hmulH]; exact p4
  have hLo : 1 ≤ lowP M ∧ lowP M ≤ 1000000000 := ⟨hlp, by rw [← hmulL]; exact p2.2⟩
  have W1 := Lib.hid (show wrap64 (a0 * a1) = a0 * a1 from wrap_in (by omega))
  have W2 := Lib.hid (show wrap64 (a0 * a1 * a2) = a0 * a1 * a2 from wrap_in (by omega))
  have W3 := Lib.hid (show wrap64 (b0 * b1) = b0 * b1 from wrap_in (by omega))
  have W4 := Lib.hid (show wrap64 (b0 * b1 * b2) = b0 * b1 * b2 from wrap_in (by omega))
  have i0 : ∀ w, (Instr.index 93 (.agg #[.int .i64 a0, .int .i64 b0, .int .i64 a1, .int .i64 b1, .int .i64 a2, .int .i64 b2]) (.int .i64 0)).run Try.prog w = .ok (.agg #[.int .i64 a0, .int .i64 b0]) w := fun _ => by kernel_rfl
  have i1 : ∀ w, (Instr.index 93 (.agg #[.int .i64 a0, .int .i64 b0, .int .i64 a1, .int .i64 b1, .int .i64 a2, .int .i64 b2]) (.int .i64 1)).run Try.prog w = .ok (.agg #[.int .i64 a1, .int .i64 b1]) w := fun _ => by kernel_rfl
  have i2 : ∀ w, (Instr.index 93 (.agg #[.int .i64 a0, .int .i64 b0, .int .i64 a1, .int .i64 b1, .int .i64 a2, .int .i64 b2]) (.int .i64 2)).run Try.prog w = .ok (.agg #[.int .i64 a2, .int .i64 b2]) w := fun _ => by kernel_rfl
  clear hlp
  go_enter Try.func81, Try.ntmps81
  go_wp2_with fail
  go_loopw [5, 6, 22] (fun ol oh oi wr => ∃ k : Nat, k ≤ 3 ∧ oi = .int .i64 k ∧ ol = .int .i64 (partP a0 a1 a2 k) ∧ oh = .int .i64 (partP b0 b1 b2 k) ∧ Hid (Below w.heap.size w wr)) (fun _ _ i _ => 3 - (intOf i).toNat)
  case atStart => exact ⟨0, by omega, rfl, rfl, rfl, Below.refl _ _⟩
  case round =>
    obtain ⟨k, hk, rfl, rfl, rfl, hb⟩ := hrel
    have hk4 : k = 0 ∨ k = 1 ∨ k = 2 ∨ k = 3 := by omega
    rcases hk4 with rfl | rfl | rfl | rfl
    · simp only [partP]
      have hszr := hb.out.size
      go_wp2_with fail
      exact ⟨⟨1, by omega, by go_num, rfl, rfl, Lib.hid (hb.out.alloc (by omega) _)⟩, by simp [intOf]⟩
    · simp only [partP]
      have w1 := W1.out
      have w3 := W3.out
      have hszr := hb.out.size
      go_wp2_with fail
      exact ⟨⟨2, by omega, by go_num, rfl, rfl, Lib.hid (hb.out.alloc (by omega) _)⟩, by simp [intOf]⟩
    · simp only [partP]
      have w2 := W2.out
      have w4 := W4.out
      have hszr := hb.out.size
      go_wp2_with fail
      exact ⟨⟨3, by omega, by go_num, rfl, rfl, Lib.hid (hb.out.alloc (by omega) _)⟩, by simp [intOf]⟩
    · rw [hmulL, hmulH]
      obtain ⟨LO, hLO⟩ : ∃ x, lowP M = x := ⟨_, rfl⟩
      obtain ⟨HI, hHI⟩ : ∃ x, highP M = x := ⟨_, rfl⟩
      rw [hLO] at hLo ⊢
      rw [hHI] at hHi ⊢
      have HLO := Lib.hid hLO
      have HHI := Lib.hid hHI
      have hb4 := HB4.out wr hb.out
      have hszr := hb.out.size
      clear c6 c7 c8 c9 c10 c11 hmulL hmulH i0 i1 i2 W1 W2 W3 W4 p1 p2 p3 p4 s0 s1 s2 hLO hHI
      have hb4a := HB4.out (wr.alloc (.cells #[.int .i64 LO] 3)) (hb.out.alloc (by omega) _)
      have hown0 : (wr.alloc (.cells #[.int .i64 LO] 3)).ownsRow w.heap.size 3 1 (.slice (some ⟨wr.heap.size, 0, none⟩) 1 1) 1 [.int .i64 LO] :=
        ⟨rfl, .inr ⟨wr.heap.size, 1, _, rfl, by omega, heap_new _ _, Nat.le_refl _, by unfold maxLen; omega, rfl, rfl⟩⟩
      have HOWN0 := Lib.hid hown0
      have HB0 := Lib.hid (show Below w.heap.size w (wr.alloc (.cells #[.int .i64 LO] 3)) from hb.out.alloc (by omega) _)
      have HS1 := Lib.hid (show startsTo M k0 0 = [LO] by rw [startsTo, HLO.out]; rfl)
      obtain ⟨i0, hi, hz0, hz1, hz2⟩ := info_parts Try_infoJ
      clear hown0 hb hb4
      go_wp2_with fail
      clear hb4a hszr
      go_loopw [9, 42] (fun os oi wr => ∃ (k : Nat) (A : Option Addr) (cap : Nat), k ≤ M.bals.length ∧ oi = .int .i64 k ∧ os = .slice A (startsTo M k0 k).length cap ∧ Hid (wr.ownsRow w.heap.size 3 1 (.slice A (startsTo M k0 k).length cap) (startsTo M k0 k).length ((startsTo M k0 k).map (Value.int .i64))) ∧ Hid (Below w.heap.size w wr)) (fun _ i _ => M.bals.length - (intOf i).toNat)
      case atStart => exact ⟨0, some ⟨wr.heap.size, 0, none⟩, 1, by omega, rfl, by rw [HS1.out]; rfl, by rw [HS1.out]; exact HOWN0, HB0⟩
      case round =>
        clear HOWN0 HB0
        obtain ⟨k, sA, scap, hk, rfl, rfl, hown, hb⟩ := hrel
        have hszr := hb.out.size
        have hsl := startsTo_len M k0 k
        obtain ⟨n, hn⟩ : ∃ n, (startsTo M k0 k).length = n := ⟨_, rfl⟩
        rw [hn] at hown hsl ⊢
        have HN := Lib.hid hn
        clear hn
        by_cases hlt : k < M.bals.length
        · have hlt' : ((k : Nat) : Int) < (M.bals.length : Int) := by omega
          have hsuc := Lib.hid (startsTo_succ (leak := k0) hlt)
          obtain ⟨rfl, hbb⟩ := HA.out (by omega)
          obtain ⟨d0, d1, d2, d3⟩ := (HC.out k hlt).below hb.out hbb
          have hv := HBX.out k hlt
          obtain ⟨b, hbe⟩ : ∃ b, bnth M.bals k = b := ⟨_, rfl⟩
          rw [hbe] at d0 d1 d2 d3 hv hsuc
          obtain ⟨f1, f2⟩ := HFO.out b hv.1 hv.2.1.1
          have HF2 := Lib.hid (fun (W : World) (hW : Below w.heap.size w W) => HF.out b.weight b.minutes W hW hv.1 hv.2.1)
          obtain ⟨FV, hFV⟩ : ∃ x, force M b.weight b.minutes k0 = x := ⟨_, rfl⟩
          rw [hFV] at f1 f2 HF2
          have HSB := Lib.hid (show startsB M k0 b = (if b.load + b.off > 0 then [upD FV (b.load + b.off)] else []) ++ (if b.load - b.off > 0 then [FV / (b.load - b.off) + 1] else []) by unfold startsB; rw [hFV])
          obtain ⟨x0, x1, x2, x3⟩ := b
          dsimp only at d0 d1 d2 d3 hv HF2 HSB
          have hw1 : IntKind.i64.wrap (x2 + x3) = x2 + x3 := IntWalk.i64_in _ (by omega)
          have hw2 : IntKind.i64.wrap (x2 - x3) = x2 - x3 := IntWalk.i64_in _ (by omega)
          obtain ⟨e0, e1, e2, e3⟩ := cells4 (heap_new wr (.cells #[.int .i64 x0, .int .i64 x1, .int .i64 x2, .int .i64 x3] 51))
          have HWB := Lib.hid (show Below w.heap.size w (wr.alloc (.cells #[.int .i64 x0, .int .i64 x1, .int .i64 x2, .int .i64 x3] 51)) from hb.out.alloc (by omega) _)
          have HNB := Lib.hid (heap_new wr (.cells #[.int .i64 x0, .int .i64 x1, .int .i64 x2, .int .i64 x3] 51))
          have HOWN := Lib.hid (show (wr.alloc (.cells #[.int .i64 x0, .int .i64 x1, .int .i64 x2, .int .i64 x3] 51)).ownsRow w.heap.size 3 1 (.slice sA n scap) n ((startsTo M k0 k).map (Value.int .i64)) from hown.out.alloc _)
          have HNO := Lib.hid (fun bb (h : (Value.slice sA n scap).ownBlock = some bb) => (hown.out.lt bb h).2)
          obtain ⟨w4, hw4⟩ : ∃ w4, w4 = wr.alloc (.cells #[.int .i64 x0, .int .i64 x1, .int .i64 x2, .int .i64 x3] 51) := ⟨_, rfl⟩
          rw [← hw4] at e0 e1 e2 e3 HWB HNB HOWN
          have hsz4 : w4.heap.size = wr.heap.size + 1 := by rw [hw4]; simp
          have hszw4 : w.heap.size ≤ w4.heap.size := by omega
          have HW4 := Lib.hid hw4
          have HSZ4 := Lib.hid hsz4
          clear hown hb hbe hFV hw4 hsz4
          by_cases q1 : 0 < x2 + x3
          · have q1' : ¬ x2 + x3 ≤ 0 := by omega
            have HRU := Lib.hid (fun W => roundedUp_any FV (x2 + x3) W (by omega) (by omega))
            obtain ⟨UU, hUU⟩ : ∃ x, upD FV (x2 + x3) = x := ⟨_, rfl⟩
            rw [hUU] at HRU
            by_cases q2 : 0 < x2 - x3
            · have hq1 : FV.tdiv (x2 - x3) = FV / (x2 - x3) := Int.tdiv_eq_ediv_of_nonneg (by omega)
              have hQ0 : 0 ≤ FV / (x2 - x3) := Int.ediv_nonneg (by omega) (by omega)
              have hQ1 : FV / (x2 - x3) ≤ FV := Int.ediv_le_self _ (by omega)
              obtain ⟨QQ, hQQ⟩ : ∃ x, FV / (x2 - x3) = x := ⟨_, rfl⟩
              rw [hQQ] at hq1 hQ0 hQ1
              have hqw : IntKind.i64.wrap QQ = QQ := IntWalk.i64_in _ (by omega)
              have hqw1 : IntKind.i64.wrap (QQ + 1) = QQ + 1 := IntWalk.i64_in _ (by omega)
              have hqw2 : wrap64 (QQ + 1) = QQ + 1 := wrap_in (by omega)
              have hqn : ¬ x2 - x3 = 0 := by omega
              have HQQ := Lib.hid hQQ
              clear hQQ
              go_upto_region 12 with fail
              rw [← HW4.out]
              go_wp2_with (first | (go_at_call 61; refine (HF2.out w4 HWB.out).mono ?_; rintro e w' ⟨rfl, rfl⟩) | (go_at_call 63; refine (HRU.out _).mono ?_; rintro e w' ⟨rfl, rfl⟩) | (at_builtin; refine wpList_onto (base := w.heap.size) (v := .slice sA n scap) (n := n) (xs := (startsTo M k0 k).map (Value.int .i64)) (A := some ⟨w4.heap.size, 0, none⟩) (m := 1) (c := 1) (news := [.int .i64 UU]) rfl (.tmp 60) (.tmp 64) rfl Try.underlying28 hi hz0 hz1 hz2 rfl (by decide) rfl (HOWN.out.alloc _) rfl ⟨rfl, fun _ => ⟨_, rfl, cell_one_new _ _ _⟩⟩ (by simp [Value.oneCell']) (by unfold maxLen; omega) (by omega) (by simp; omega) ?_; intro A5 c5 w5 hown5 hgrow5 hat5; have hbx5 := ((grown_kept hgrow5).block _ (heap_lt HNB.out) (fun h => by have := HNO.out _ h; omega)).trans HNB.out; obtain ⟨r50, r51, r52, r53⟩ := cells4 hbx5; have HBX5 := Lib.hid hbx5; have HB5 := Lib.hid (grown_below HWB.out (by have := HSZ4.out; omega) HOWN.out (Nat.le_refl _) hgrow5); have HOWN5 := Lib.hid hown5; have hsz5 := HB5.out.size; have HN5 := Lib.hid (fun bb (h : (Value.slice A5 (n + 1) c5).ownBlock = some bb) => (show bb ≠ wr.heap.size from by rcases hat5 with e | e; (have := HNO.out bb (e ▸ h); omega); (rw [e] at h; injection h with h; have := HSZ4.out; simp at h; omega))); clear hbx5 hown5 hgrow5 hat5) | (at_builtin; refine wpList_onto (base := w.heap.size) (v := .slice A5 (n + 1) c5) (n := (n + 1)) (xs := (startsTo M k0 k).map (Value.int .i64) ++ [.int .i64 UU]) (A := some ⟨w5.heap.size, 0, none⟩) (m := 1) (c := 1) (news := [.int .i64 (QQ + 1)]) rfl (.tmp 73) (.tmp 78) rfl Try.underlying28 hi hz0 hz1 hz2 rfl (by decide) rfl (HOWN5.out.alloc _) rfl ⟨rfl, fun _ => ⟨_, rfl, cell_one_new _ _ _⟩⟩ (by simp [Value.oneCell']) (by unfold maxLen; omega) (by omega) (by simp; omega) ?_; intro A6 c6 w6 hown6 hgrow6 hat6; have hbx6 := ((grown_kept hgrow6).block _ (heap_lt HBX5.out) (fun h => by have := HN5.out _ h; omega)).trans HBX5.out; obtain ⟨r60, r61, r62, r63⟩ := cells4 hbx6; have HBX6 := Lib.hid hbx6; have HB6 := Lib.hid (grown_below HB5.out (by omega) HOWN5.out (Nat.le_refl _) hgrow6); have HOWN6 := Lib.hid hown6; have hsz6 := HB6.out.size; clear hbx6 hown6 hgrow6 hat6))
              have hU := hUU
              refine ⟨⟨_, _, _, _, _, _, _, _, _, _, _, _, _, _, _, _, _, _, _, _, _, _, _, _, _, _, _, _, _, _, _, _, _, _, _, _, _, _, _, _, _, _, _, _, ⟨k + 1, A6, c6, by omega, by go_num, ?_, ?_, HB6⟩, rfl⟩, by simp [intOf]; omega⟩
              · rw [hsuc.out, List.length_append, HN.out, HSB.out, if_pos (show x2 + x3 > 0 by omega), if_pos (show x2 - x3 > 0 by omega), hUU, HQQ.out]; rfl
              · show World.ownsRow _ _ _ _ _ _ _
                rw [hsuc.out, List.length_append, List.map_append, HN.out, HSB.out, if_pos (show x2 + x3 > 0 by omega), if_pos (show x2 - x3 > 0 by omega), hUU, HQQ.out]; exact (by have := HOWN6.out; simpa using this)
            · have q2' : x2 - x3 ≤ 0 := by omega
              go_upto_region 12 with fail
              rw [← HW4.out]
              go_wp2_with (first | (go_at_call 61; refine (HF2.out w4 HWB.out).mono ?_; rintro e w' ⟨rfl, rfl⟩) | (go_at_call 63; refine (HRU.out _).mono ?_; rintro e w' ⟨rfl, rfl⟩) | (at_builtin; refine wpList_onto (base := w.heap.size) (v := .slice sA n scap) (n := n) (xs := (startsTo M k0 k).map (Value.int .i64)) (A := some ⟨w4.heap.size, 0, none⟩) (m := 1) (c := 1) (news := [.int .i64 UU]) rfl (.tmp 60) (.tmp 64) rfl Try.underlying28 hi hz0 hz1 hz2 rfl (by decide) rfl (HOWN.out.alloc _) rfl ⟨rfl, fun _ => ⟨_, rfl, cell_one_new _ _ _⟩⟩ (by simp [Value.oneCell']) (by unfold maxLen; omega) (by omega) (by simp; omega) ?_; intro A5 c5 w5 hown5 hgrow5 hat5; have hbx5 := ((grown_kept hgrow5).block _ (heap_lt HNB.out) (fun h => by have := HNO.out _ h; omega)).trans HNB.out; obtain ⟨r50, r51, r52, r53⟩ := cells4 hbx5; have HBX5 := Lib.hid hbx5; have HB5 := Lib.hid (grown_below HWB.out (by have := HSZ4.out; omega) HOWN.out (Nat.le_refl _) hgrow5); have HOWN5 := Lib.hid hown5; have hsz5 := HB5.out.size; have HN5 := Lib.hid (fun bb (h : (Value.slice A5 (n + 1) c5).ownBlock = some bb) => (show bb ≠ wr.heap.size from by rcases hat5 with e | e; (have := HNO.out bb (e ▸ h); omega); (rw [e] at h; injection h with h; have := HSZ4.out; simp at h; omega))); clear hbx5 hown5 hgrow5 hat5))
              refine ⟨⟨_, _, _, _, _, _, _, _, _, _, _, _, _, _, _, _, _, _, _, _, _, _, _, _, _, _, _, _, _, _, _, _, _, _, _, _, _, _, _, _, _, _, _, _, ⟨k + 1, A5, c5, by omega, by go_num, ?_, ?_, HB5⟩, rfl⟩, by simp [intOf]; omega⟩
              · rw [hsuc.out, List.length_append, HN.out, HSB.out, if_pos (show x2 + x3 > 0 by omega), if_neg (show ¬ x2 - x3 > 0 by omega), hUU]; rfl
              · show World.ownsRow _ _ _ _ _ _ _
                rw [hsuc.out, List.length_append, List.map_append, HN.out, HSB.out, if_pos (show x2 + x3 > 0 by omega), if_neg (show ¬ x2 - x3 > 0 by omega), hUU]; exact (by have := HOWN5.out; simpa using this)
          · have q1' : x2 + x3 ≤ 0 := by omega
            have q2' : x2 - x3 ≤ 0 := by omega
            go_upto_region 12 with fail
            rw [← HW4.out]
            go_wp2_with (go_at_call 61; refine (HF2.out w4 HWB.out).mono ?_; rintro e w' ⟨rfl, rfl⟩)
            refine ⟨⟨_, _, _, _, _, _, _, _, _, _, _, _, _, _, _, _, _, _, _, _, _, _, _, _, _, _, _, _, _, _, _, _, _, _, _, _, _, _, _, _, _, _, _, _, ⟨k + 1, sA, scap, by omega, by go_num, ?_, ?_, HWB⟩, rfl⟩, by simp [intOf]; omega⟩
            · rw [hsuc.out, List.length_append, HN.out, HSB.out, if_neg (show ¬ x2 + x3 > 0 by omega), if_neg (show ¬ x2 - x3 > 0 by omega)]; rfl
            · show World.ownsRow _ _ _ _ _ _ _
              rw [hsuc.out, List.length_append, List.map_append, HN.out, HSB.out, if_neg (show ¬ x2 + x3 > 0 by omega), if_neg (show ¬ x2 - x3 > 0 by omega)]; exact (by have := HOWN.out; simpa using this)
        · have hke : k = M.bals.length := by omega
          subst hke
          have hlt' : ¬ ((M.bals.length : Nat) : Int) < (M.bals.length : Int) := by omega
          clear hlt
          have HST1 := Lib.hid (fun s (h : s ∈ startsL M k0) => HST.out M.bals.length s (by rw [startsTo_all]; exact h))
          have HAL := Lib.hid (show alikeL M k0 = spansL HI LO (sortI (startsL M k0)) by unfold alikeL; rw [HHI.out, HLO.out])
          have hnl : (startsL M k0).length = n := by rw [← startsTo_all]; exact HN.out
          obtain ⟨LS, hLS⟩ : ∃ x, startsL M k0 = x := ⟨_, rfl⟩
          have hown' : wr.ownsRow w.heap.size 3 1 (.slice sA LS.length scap) LS.length (LS.map (Value.int .i64)) := by rw [← hLS, hnl, ← startsTo_all]; exact hown.out
          rw [hLS] at HST1 HAL hnl
          have hso := sort_own hown' (by omega)
          rw [hnl] at hso
          obtain ⟨SL, hSL⟩ : ∃ x, sortI LS = x := ⟨_, rfl⟩
          have hso' : Calls Try.prog 86 #[.slice sA n scap] wr fun e w' => e = .returned (.tuple #[]) ∧ w'.ownsRow w.heap.size 3 1 (.slice sA n scap) n (SL.map (Value.int .i64)) ∧ KeptBut (fun k => w.heap.size ≤ k) wr w' := by rw [← hSL]; exact hso
          have HSO := Lib.hid hso'
          have hnS : SL.length = n := by rw [← hSL, (sortI_perm LS).length_eq]; exact hnl
          have HSB := Lib.hid (show ∀ s ∈ SL, 0 ≤ s ∧ s ≤ 100000000000000 from fun s h => HST1.out s ((sortI_perm LS).mem_iff.1 (by rw [hSL]; exact h)))
          rw [hSL] at HAL
          have HNS := Lib.hid hnS
          have HWN := Lib.hid hb.out
          clear hso hso' hown' hnl hLS hSL hnS HST HST1 hb hown HFO HBX HC HA HF HB4 HN HS1
          have hHw : IntKind.i64.wrap (HI + 1) = HI + 1 := IntWalk.i64_in _ (by omega)
          have hHw2 : wrap64 (HI + 1) = HI + 1 := wrap_in (by omega)
          go_wp2_with (first | (go_at_call 86; refine HSO.out.mono ?_; rintro e w2 ⟨rfl, hown2, hk2⟩; have HB2 := Lib.hid (HWN.out.trans (hk2.below HWN.out.size (fun k h => h))); have HOWN2 := Lib.hid hown2; have hsz2 := HB2.out.size; clear hown2 hk2 HSO) | (at_builtin; refine wpList_onto (base := w.heap.size) (v := .slice sA n scap) (n := n) (xs := SL.map (Value.int .i64)) (A := some ⟨w2.heap.size, 0, none⟩) (m := 1) (c := 1) (news := [.int .i64 (HI + 1)]) rfl (.tmp 83) (.tmp 86) rfl Try.underlying28 hi hz0 hz1 hz2 rfl (by decide) rfl (HOWN2.out.alloc _) rfl ⟨rfl, fun _ => ⟨_, rfl, cell_one_new _ _ _⟩⟩ (by simp [Value.oneCell']) (by unfold maxLen; omega) (by omega) (by simp; omega) ?_; intro A3 c3 w3 hown3 hgrow3 hat3; have HB3 := Lib.hid (grown_below HB2.out (by omega) HOWN2.out (Nat.le_refl _) hgrow3); have HOWN3 := Lib.hid hown3; have hsz3 := HB3.out.size; clear hown3 hgrow3 hat3 HOWN2))
          --LOOP3--
          obtain ⟨RW, hRW⟩ : ∃ x, SL ++ [HI + 1] = x := ⟨_, rfl⟩
          have hlenR : RW.length = n + 1 := by rw [← hRW]; simp [HNS.out]
          have HRB := Lib.hid (show ∀ x ∈ RW, 0 ≤ x ∧ x ≤ 100000000000000 from fun x h => by rw [← hRW] at h; rcases List.mem_append.1 h with h | h; exact HSB.out x h; (simp at h; omega))
          have hrw : w3.ownsRow w.heap.size 3 1 (.slice A3 (n + 1) c3) (n + 1) (RW.map (Value.int .i64)) := by have := HOWN3.out; rw [← hRW]; simpa using this
          obtain ⟨B3, off3, rfl, hB3, hc3a, hc3b, hrc⟩ := ints_read hrw hlenR (by omega) (fun x h => by have := HRB.out x h; unfold I64; omega)
          have HRC := Lib.hid hrc
          have HAL2 := Lib.hid (show alikeL M k0 = (spanFold HI LO RW).2 by rw [HAL.out, ← span_fold, hRW])
          have hlh := low_high hV
          rw [HLO.out, HHI.out] at hlh
          have HLR := Lib.hid hlenR
          have HF0 := Lib.hid (show spanFold HI LO (RW.take 0) = (LO, []) by rw [List.take_zero]; rfl)
          obtain ⟨iS, hiS, hy0, hy1, hy2⟩ := info_parts Try_infoS
          clear hrw hrc hRW hlenR HOWN3 HAL HSB HNS
          go_loopw [5, 15, 89] (fun ol os oi wr => ∃ (k : Nat) (A : Option Addr) (cap : Nat), k ≤ n + 1 ∧ oi = .int .i64 k ∧ ol = .int .i64 (spanFold HI LO (RW.take k)).1 ∧ os = .slice A (spanFold HI LO (RW.take k)).2.length cap ∧ Hid (wr.ownsRow w3.heap.size 24 2 (.slice A (spanFold HI LO (RW.take k)).2.length cap) (spanFold HI LO (RW.take k)).2.length (qCells (spanFold HI LO (RW.take k)).2)) ∧ Hid (Below w3.heap.size w3 wr)) (fun _ _ i _ => n + 1 - (intOf i).toNat)
          case atStart => exact ⟨0, none, 0, by omega, rfl, by rw [HF0.out], by rw [HF0.out]; rfl, by rw [HF0.out]; exact Lib.hid ⟨rfl, .inl ⟨rfl, rfl⟩⟩, Lib.hid (Below.refl _ _)⟩
          case round =>
            obtain ⟨k, sA2, sc2, hk, rfl, rfl, rfl, hown, hb⟩ := hrel
            have hszr := hb.out.size
            have hpl := spanFold_low (high := HI) (low := LO) (by omega) (RW.take k)
            have hcn := spanFold_len (high := HI) (low := LO) (RW.take k)
            have htl : (RW.take k).length ≤ k := List.length_take_le k RW
            have hst := fun h : k < RW.length => (show spanFold HI LO (RW.take (k + 1)) = spanStep HI (spanFold HI LO (RW.take k)) (nth RW k) by rw [take_next h, spanFold_snoc])
            by_cases hlt : k < n + 1
            · have hlt1 : ((k : Nat) : Int) < ((n : Nat) : Int) + 1 := by omega
              have hcell := (hb.out.cell (p := ⟨B3, off3 + k, none⟩) hB3).trans (HRC.out k hlt)
              have hst1 := hst (by rw [HLR.out]; exact hlt)
              have hXb := HRB.out (nth RW k) (by rw [nth_lt (by rw [HLR.out]; exact hlt)]; exact List.getElem_mem _)
              obtain ⟨X, hX⟩ : ∃ x, nth RW k = x := ⟨_, rfl⟩
              rw [hX] at hcell hXb hst1
              clear hst hX htl
              obtain ⟨PP, hPP⟩ : ∃ x, spanFold HI LO (RW.take k) = x := ⟨_, rfl⟩
              rw [hPP] at hpl hown hcn hst1 ⊢
              obtain ⟨PL, PS⟩ := PP
              dsimp only at hpl hown hcn ⊢
              obtain ⟨cnt, hcnt⟩ : ∃ x, PS.length = x := ⟨_, rfl⟩
              rw [hcnt] at hown hcn ⊢
              have hm := mn2_le X (HI + 1)
              have HCNT := Lib.hid hcnt
              have hcn2 : cnt ≤ 20 := by have := List.length_take_le k RW; omega
              have hwm : IntKind.i64.wrap (mn2 X (HI + 1) - 1) = mn2 X (HI + 1) - 1 := IntWalk.i64_in _ (by omega)
              have hwm2 : wrap64 (mn2 X (HI + 1) - 1) = mn2 X (HI + 1) - 1 := wrap_in (by omega)
              have hwk : IntKind.i64.wrap ((k : Int) + 1) = (k : Int) + 1 := IntWalk.i64_in _ (by omega)
              clear hcnt hPP hcn
              by_cases q : PL < mn2 X (HI + 1)
              · have HST2 := Lib.hid (show spanFold HI LO (RW.take (k + 1)) = (mn2 X (HI + 1), PS ++ [(PL, mn2 X (HI + 1) - 1)]) by rw [hst1]; unfold spanStep; exact if_pos q)
                clear hst1
                go_wp2_with (at_builtin; refine wpList_onto (base := w3.heap.size) (v := .slice sA2 cnt sc2) (n := cnt) (xs := qCells PS) (A := some ⟨wr.heap.size, 0, none⟩) (m := 1) (c := 1) (news := [.int .i64 PL, .int .i64 (mn2 X (HI + 1) - 1)]) rfl (.tmp 100) (.tmp 105) rfl Try.underlying114 hiS hy0 hy1 hy2 rfl (by decide) rfl (hown.out.alloc _) rfl (from_two _ _ _ _) (by simp [Value.oneCell']) (by unfold maxLen; omega) (by omega) (by simp; omega) ?_; intro A9 c9 w9 hown9 hgrow9 hat9; have HB9 := Lib.hid (grown_below hb.out hszr hown.out (Nat.le_refl _) hgrow9); have HOWN9 := Lib.hid hown9; clear hown9 hgrow9 hat9)
                refine ⟨⟨k + 1, A9, c9, by omega, by go_num, ?_, ?_, ?_, HB9⟩, by simp [intOf]; omega⟩
                · rw [HST2.out]; rfl
                · rw [HST2.out, List.length_append, HCNT.out]; rfl
                · show World.ownsRow _ _ _ _ _ _ _
                  rw [HST2.out, List.length_append, HCNT.out, qCells_snoc]; exact HOWN9.out
              · have q' : mn2 X (HI + 1) ≤ PL := by omega
                have HST2 := Lib.hid (show spanFold HI LO (RW.take (k + 1)) = (PL, PS) by rw [hst1]; unfold spanStep; exact if_neg q)
                clear hst1
                go_wp2_with fail
                refine ⟨⟨k + 1, sA2, sc2, by omega, by go_num, ?_, ?_, ?_, hb⟩, by simp [intOf]; omega⟩
                · rw [HST2.out]
                · rw [HST2.out, HCNT.out]
                · show World.ownsRow _ _ _ _ _ _ _
                  rw [HST2.out, HCNT.out]; exact hown.out
            · have hke : k = n + 1 := by omega
              subst hke
              have hlt1 : ¬ ((n : Nat) : Int) + 1 < ((n : Nat) : Int) + 1 := by omega
              have hta : RW.take (n + 1) = RW := by rw [← HLR.out, List.take_length]
              rw [hta] at hown ⊢
              have HSP := Lib.hid (spans_in' hown.out hsz3)
              obtain ⟨cnt, hcnt⟩ : ∃ x, (spanFold HI LO RW).2.length = x := ⟨_, rfl⟩
              rw [hcnt] at HSP ⊢
              clear hlt hta hst hcn hpl hown htl hcnt
              go_wp2_with fail
              refine bodyPost_ret (v := .slice sA2 cnt sc2) (by simp [results, Try.results81, go_sem]) rfl ?_
              exact ⟨_, rfl, by rw [HAL2.out]; exact HSP.out, HB3.out.trans (hb.out.mono HB3.out.size)⟩
end Go.Proofs.Ytomcjopcfdllgaa
