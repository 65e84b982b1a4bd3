/-
  Links, walks: a past is made, and the deeds of a chain are followed in it.
  Links, walks: the deeds of a chain are followed in the memory of a past.
  Links, walks: the deeds of a chain are followed in the memory of a past: the walk.
-/
import Derived.Test.YtgjikoebneiamaaLPast
import Derived.Test.YtgjikoebneiamaaLOpen
import Derived.Deep.OwnRows
import Derived.Lib.SliceRun

namespace Go.Proofs.Ytgjikoebneiamaa
open Go.RowKit Go.Sort

/-- The memory of a past: the cables after the first k deeds are there, the rows of the others are anything. -/
structure PastTo (n Bp Bm : Nat) (cab : Nat → List Int) (k : Nat) (W : World) : Prop where
  ne : Bp ≠ Bm
  hdr : ∃ arr, W.heap[Bp]? = some (.cells arr 33) ∧ arr.size = n + 1 ∧ (∀ i, i ≤ k → arr[i]? = some (.slice (some ⟨Bm, i * 12, none⟩) (cab i).length 12)) ∧
    ∀ i, k < i → i ≤ n → ∃ l, l ≤ 12 ∧ arr[i]? = some (.slice (some ⟨Bm, i * 12, none⟩) l 12)
  mem : ∃ f, RowAt Bm ((n + 1) * 12) f W ∧ ∀ i, i ≤ k → Holds f (i * 12) (cab i)
  len : ∀ i, i ≤ k → (cab i).length ≤ 12
abbrev pastV (n Bp : Nat) : Value := .slice (some ⟨Bp, 0, none⟩) (n + 1) (n + 1)
theorem PastTo.ltp {n Bp Bm : Nat} {cab : Nat → List Int} {k : Nat} {W : World} (h : PastTo n Bp Bm cab k W) : Bp < W.heap.size := by
  obtain ⟨arr, h1, _⟩ := h.hdr; exact heap_lt h1
theorem PastTo.ltm {n Bp Bm : Nat} {cab : Nat → List Int} {k : Nat} {W : World} (h : PastTo n Bp Bm cab k W) : Bm < W.heap.size := by
  obtain ⟨f, h1, _⟩ := h.mem; exact h1.lt
theorem PastTo.kept {n Bp Bm : Nat} {cab : Nat → List Int} {k : Nat} {W W' : World} (h : PastTo n Bp Bm cab k W) {own : Nat → Prop} (hk : KeptBut own W W') (hp : ¬ own Bp) (hm : ¬ own Bm) : PastTo n Bp Bm cab k W' := by
  obtain ⟨arr, h1, h2⟩ := h.hdr
  obtain ⟨f, h3, h4⟩ := h.mem
  exact ⟨h.ne, ⟨arr, (hk.block _ (heap_lt h1) hp).trans h1, h2⟩, ⟨f, h3.kept (hk.block _ h3.lt hm), h4⟩, h.len⟩

theorem hdr_cell {n Bp Bm : Nat} {cab : Nat → List Int} {k : Nat} {W : World} (h : PastTo n Bp Bm cab k W) {i : Nat} (hi : i ≤ k) : W.cell? ⟨Bp, i, none⟩ = some (.slice (some ⟨Bm, i * 12, none⟩) (cab i).length 12) := by
  obtain ⟨arr, h1, h2, h3, _⟩ := h.hdr
  rw [cell_of h1]; exact h3 i hi

theorem made_get {z : Value} {n i : Nat} (h : i < n) : (madeCells #[z] n)[i]? = some z := by
  rw [← Array.getElem?_toList, toList_madeCells_one, List.getElem?_replicate, if_pos h]

/-- A past while it is made: the first k rows are cut out. -/
structure NewSt (n : Nat) (w : World) (k : Nat) (W : World) : Prop where
  hdr : ∃ arr, W.heap[w.heap.size]? = some (.cells arr 33) ∧ arr.size = n + 1 ∧ (∀ i, i < k → arr[i]? = some (.slice (some ⟨w.heap.size + 1, i * 12, none⟩) 0 12)) ∧ ∀ i, k ≤ i → i ≤ n → arr[i]? = some (.slice none 0 0)
  mem : RowAt (w.heap.size + 1) ((n + 1) * 12) (fun _ => 0) W
  size : W.heap.size = w.heap.size + 2
  kept : Below w.heap.size w W
theorem NewSt.step {n : Nat} {w : World} {k : Nat} {W : World} (h : NewSt n w k W) (hk : k ≤ n) : NewSt n w (k + 1) (W.setCell ⟨w.heap.size, k, none⟩ (.slice (some ⟨w.heap.size + 1, k * 12, none⟩) 0 12)) := by
  obtain ⟨arr, h1, h2, h3, h4⟩ := h.hdr
  refine ⟨⟨_, heap_setCell_same h1, by simp [h2], fun i hi => ?_, fun i hi hin => ?_⟩, h.mem.kept (heap_setCell_other (by omega)), by rw [size_setCell]; exact h.size, below_setCell h.kept (Nat.le_refl _)⟩
  · by_cases e : i = k
    · subst e; simp [Array.getElem?_setIfInBounds, h2]; omega
    · rw [Array.getElem?_setIfInBounds_ne (by omega)]; exact h3 i (by omega)
  · rw [Array.getElem?_setIfInBounds_ne (by omega)]; exact h4 i (by omega) hin

set_option maxRecDepth 100000 in
set_option maxHeartbeats 2000000 in
theorem newPast_any (n : Nat) (w : World) (hn : n ≤ 12) :
    Calls Try.prog 113 #[.int .i64 n] w fun e w' => e = .returned (pastV n w.heap.size) ∧ Below w.heap.size w w' ∧ w'.heap.size = w.heap.size + 2 ∧ PastTo n w.heap.size (w.heap.size + 1) (fun _ => []) n w' := by
  go_enter Try.func113, Try.ntmps113
  have hw1 : IntKind.i64.wrap ((n : Int) + 1) = (n : Int) + 1 := IntWalk.i64_in _ (by omega)
  have hw2 : IntKind.i64.wrap (((n : Int) + 1) * 12) = ((n : Int) + 1) * 12 := IntWalk.i64_in _ (by omega)
  have hmk1 : ∀ w, (Instr.makeSlice 89 (.int .i64 ((n : Int) + 1)) (.int .i64 ((n : Int) + 1))).run Try.prog w = .ok (.slice (some ⟨w.heap.size, 0, none⟩) (n + 1) (n + 1)) (w.alloc (.cells (madeCells #[.slice none 0 0] (n + 1)) 33)) := fun w => by
    have := run_make_row' (P := Try.prog) 89 33 (.slice none 0 0) 24 (by kernel_rfl) (by kernel_rfl) rfl .i64 .i64 (n + 1) (by omega) (by omega) w
    simpa only [Int.natCast_add, Int.natCast_one] using this
  have hmk2 : ∀ w, (Instr.makeSlice 33 (.int .i64 (((n : Int) + 1) * 12)) (.int .i64 (((n : Int) + 1) * 12))).run Try.prog w = .ok (.slice (some ⟨w.heap.size, 0, none⟩) ((n + 1) * 12) ((n + 1) * 12)) (w.alloc (.cells (madeCells #[.int .i64 0] ((n + 1) * 12)) 3)) := fun w => by
    have := run_make_row' (P := Try.prog) 33 3 (.int .i64 0) 8 (by kernel_rfl) (by kernel_rfl) rfl .i64 .i64 ((n + 1) * 12) (by omega) (by omega) w
    simpa only [Int.natCast_mul, Int.natCast_add, Int.natCast_one, show ((12 : Nat) : Int) = 12 from rfl] using this
  go_wp2_with fail
  go_loopw [16] (fun i wr => ∃ k : Nat, k ≤ n + 1 ∧ i = .int .i64 k ∧ Hid (NewSt n w k wr)) (fun i _ => n + 1 - (intOf i).toNat)
  case atStart =>
    exact ⟨0, Nat.zero_le _, rfl, ⟨⟨_, heap_old1 _ _ _, by simp [size_madeCells], fun i hi => by omega, fun i _ hi => made_get (by omega)⟩, ⟨_, heap_new1 _ _ _, by simp [size_madeCells], fun i hi => made_get hi⟩, by simp, by go_grown⟩⟩
  case round =>
    obtain ⟨k, hk, rfl, hst⟩ := hrel
    clear hw1 hw2 hmk1 hmk2
    by_cases hlt : k < n + 1
    · obtain ⟨arr, h1, h2, h3, h4⟩ := hst.out.hdr
      have t0 := (cell_of h1 k).trans (h4 k (Nat.le_refl _) (by omega))
      have t1 := frozen_of h1 k
      clear h1 h2 h3 h4
      go_wp2_with fail
      exact ⟨⟨k + 1, by omega, by go_num, hst.out.step (by omega)⟩, by simp [intOf]; omega⟩
    · obtain rfl : k = n + 1 := by omega
      go_wp2_with fail
      go_ret
      refine ⟨rfl, hst.out.kept, hst.out.size, ⟨by omega, ?_, ⟨_, hst.out.mem, fun i _ j hj => by simp at hj⟩, fun i _ => by simp⟩⟩
      obtain ⟨arr, h1, h2, h3, h4⟩ := hst.out.hdr
      exact ⟨arr, h1, h2, fun i hi => h3 i (by omega), fun i hi hin => by omega⟩

end Go.Proofs.Ytgjikoebneiamaa

namespace Go.Proofs.Ytgjikoebneiamaa
open Go.RowKit Go.Sort

/-- What is left of the bits of the ends behind the first k deeds. -/
def restE (ds : List Deed) (e : Nat) : Nat → Nat
  | 0 => e
  | k + 1 => if (dnth ds k).from_ = 2 then restE ds e k / 2 else restE ds e k
theorem dnth_cons (d : Deed) (ds : List Deed) (k : Nat) : dnth (d :: ds) (k + 1) = dnth ds k := rfl
theorem restE_cons (d : Deed) (ds : List Deed) (e : Nat) : ∀ k, restE (d :: ds) e (k + 1) = restE ds (if d.from_ = 2 then e / 2 else e) k
  | 0 => rfl
  | k + 1 => by
    show (if (dnth (d :: ds) (k + 1)).from_ = 2 then restE (d :: ds) e (k + 1) / 2 else restE (d :: ds) e (k + 1)) = _
    rw [restE_cons d ds e k, dnth_cons]; rfl
theorem endsOf_nth : ∀ (ds : List Deed) (e k : Nat), k < ds.length → nth (endsOf ds e) k = if (dnth ds k).from_ = 2 then ((restE ds e k % 2 : Nat) : Int) else (dnth ds k).from_
  | [], _, _, h => by simp at h
  | d :: ds, e, 0, _ => by
    show nth (endsOf (d :: ds) e) 0 = if d.from_ = 2 then ((e % 2 : Nat) : Int) else d.from_
    simp only [endsOf]; split <;> rfl
  | d :: ds, e, k + 1, h => by
    rw [restE_cons, dnth_cons, ← endsOf_nth ds _ k (by simpa using h)]
    simp only [endsOf]; split <;> rfl
theorem restE_le (ds : List Deed) (e : Nat) : ∀ k, restE ds e k ≤ e
  | 0 => Nat.le_refl _
  | k + 1 => by have := restE_le ds e k; simp only [restE]; split <;> omega

/-- .. and behind it a cable that is worked at. -/
structure PastMid (n Bp Bm : Nat) (cab : Nat → List Int) (k : Nat) (c : List Int) (W : World) : Prop where
  ne : Bp ≠ Bm
  hdr : ∃ arr, W.heap[Bp]? = some (.cells arr 33) ∧ arr.size = n + 1 ∧ (∀ i, i ≤ k → arr[i]? = some (.slice (some ⟨Bm, i * 12, none⟩) (cab i).length 12)) ∧
    ∀ i, k < i → i ≤ n → ∃ l, l ≤ 12 ∧ arr[i]? = some (.slice (some ⟨Bm, i * 12, none⟩) l 12)
  mem : ∃ f, RowAt Bm ((n + 1) * 12) f W ∧ (∀ i, i ≤ k → Holds f (i * 12) (cab i)) ∧ Holds f ((k + 1) * 12) c
  len : ∀ i, i ≤ k → (cab i).length ≤ 12
  lc : c.length ≤ 12

theorem PastTo.mid {n Bp Bm : Nat} {cab : Nat → List Int} {k : Nat} {W : World} (h : PastTo n Bp Bm cab k W) (hk : k < n) :
    PastMid n Bp Bm cab k (cab k) (W.setCells Bm ((k + 1) * 12) ((cab k).map (Value.int .i64))) := by
  have hl := h.len k (Nat.le_refl _)
  obtain ⟨arr, h1, h2⟩ := h.hdr
  obtain ⟨f, h3, h4⟩ := h.mem
  refine ⟨h.ne, ⟨arr, ((kept_sets _ W _).block _ (heap_lt h1) h.ne).trans h1, h2⟩, ⟨_, RowAt.sets (cab k) f W ((k + 1) * 12) h3 (by omega), fun i hi j hj => ?_, fun j hj => ?_⟩, h.len, hl⟩
  · have := h.len i hi
    show (if _ then _ else _) = _
    rw [if_neg (by omega)]; exact h4 i hi j hj
  · show (if _ then _ else _) = _
    rw [if_pos (by omega), show (k + 1) * 12 + j - (k + 1) * 12 = j by omega]
theorem PastMid.kept {n Bp Bm : Nat} {cab : Nat → List Int} {k : Nat} {c : List Int} {W W' : World} (h : PastMid n Bp Bm cab k c W) {own : Nat → Prop} (hk : KeptBut own W W') (hp : ¬ own Bp) (hm : ¬ own Bm) : PastMid n Bp Bm cab k c W' := by
  obtain ⟨arr, h1, h2⟩ := h.hdr
  obtain ⟨f, h3, h4⟩ := h.mem
  exact ⟨h.ne, ⟨arr, (hk.block _ (heap_lt h1) hp).trans h1, h2⟩, ⟨f, h3.kept (hk.block _ h3.lt hm), h4⟩, h.len, h.lc⟩
theorem PastMid.ltp {n Bp Bm : Nat} {cab : Nat → List Int} {k : Nat} {c : List Int} {W : World} (h : PastMid n Bp Bm cab k c W) : Bp < W.heap.size := by
  obtain ⟨arr, h1, _⟩ := h.hdr; exact heap_lt h1
theorem PastMid.ltm {n Bp Bm : Nat} {cab : Nat → List Int} {k : Nat} {c : List Int} {W : World} (h : PastMid n Bp Bm cab k c W) : Bm < W.heap.size := by
  obtain ⟨f, h1, _⟩ := h.mem; exact h1.lt
theorem PastMid.change {n Bp Bm : Nat} {cab : Nat → List Int} {k : Nat} {c c' : List Int} {W W' : World} (h : PastMid n Bp Bm cab k c W) {f f' : Nat → Int} (hk : KeptBut (fun j => j = Bm) W W')
    (hf : ∀ i, i ≤ k → Holds f (i * 12) (cab i)) (h1 : RowAt Bm ((n + 1) * 12) f' W') (h2 : Holds f' ((k + 1) * 12) c') (h3 : ∀ i, i < (k + 1) * 12 → f' i = f i) (hl : c'.length ≤ 12) : PastMid n Bp Bm cab k c' W' := by
  obtain ⟨arr, g1, g2⟩ := h.hdr
  exact ⟨h.ne, ⟨arr, (hk.block _ (heap_lt g1) h.ne).trans g1, g2⟩, ⟨f', h1, fun i hi j hj => by
    have := h.len i hi
    rw [h3 _ (by omega)]; exact hf i hi j hj, h2⟩, h.len, hl⟩
theorem PastMid.store {n Bp Bm : Nat} {cab : Nat → List Int} {k : Nat} {c : List Int} {W : World} (h : PastMid n Bp Bm cab k c W) (hk : k < n) (hc : cab (k + 1) = c) :
    PastTo n Bp Bm cab (k + 1) (W.setCell ⟨Bp, k + 1, none⟩ (.slice (some ⟨Bm, (k + 1) * 12, none⟩) c.length 12)) := by
  obtain ⟨arr, h1, h2, h3, h4⟩ := h.hdr
  obtain ⟨f, g1, g2, g3⟩ := h.mem
  refine ⟨h.ne, ⟨_, heap_setCell_same h1, by simp [h2], fun i hi => ?_, fun i hi hin => ?_⟩, ⟨f, g1.kept (heap_setCell_other h.ne), fun i hi => ?_⟩, fun i hi => ?_⟩
  · by_cases e : i = k + 1
    · subst e; simp [Array.getElem?_setIfInBounds, h2, hc]; omega
    · rw [Array.getElem?_setIfInBounds_ne (by omega)]; exact h3 i (by omega)
  · rw [Array.getElem?_setIfInBounds_ne (by omega)]; exact h4 i (by omega) hin
  · by_cases e : i = k + 1
    · subst e; rw [hc]; exact g3
    · exact g2 i (by omega)
  · by_cases e : i = k + 1
    · subst e; rw [hc]; exact h.lc
    · exact h.len i (by omega)
theorem PastTo.zero {n Bp Bm : Nat} {cab cab0 : Nat → List Int} {W : World} (h : PastTo n Bp Bm cab0 n W) (h0 : cab0 0 = []) (h1 : cab 0 = []) : PastTo n Bp Bm cab 0 W := by
  obtain ⟨arr, g1, g2, g3, g4⟩ := h.hdr
  obtain ⟨f, f1, f2⟩ := h.mem
  refine ⟨h.ne, ⟨arr, g1, g2, fun i hi => ?_, fun i hi hin => ⟨(cab0 i).length, h.len i hin, g3 i hin⟩⟩, ⟨f, f1, fun i hi j hj => ?_⟩, fun i hi => ?_⟩
  all_goals obtain rfl : i = 0 := by omega
  · rw [g3 0 (by omega), h0, h1]
  · rw [h1] at hj; simp at hj
  · rw [h1]; simp

end Go.Proofs.Ytgjikoebneiamaa

namespace Go.Proofs.Ytgjikoebneiamaa
open Go.RowKit Go.Sort

theorem box4' {W : World} {b : Nat} {v0 v1 v2 v3 : Value} {t : TypeId} (e : W.heap[b]? = some (.cells #[v0, v1, v2, v3] t)) :
    W.cell? ⟨b, 0, none⟩ = some v0 ∧ W.cell? ⟨b, 1, none⟩ = some v1 ∧ W.cell? ⟨b, 2, none⟩ = some v2 ∧ W.cell? ⟨b, 3, none⟩ = some v3 := by
  refine ⟨?_, ?_, ?_, ?_⟩ <;> simp [World.cell?, e]

theorem bits_one (r : Nat) (h : r ≤ 4096) : bits BinOp.and IntKind.i64 (r : Int) 1 = ((r % 2 : Nat) : Int) := by
  simp only [bits, BitVec.toNat_and, BitVec.toNat_ofInt, show IntKind.i64.bits = 64 from rfl]
  rw [show ((r : Int) % ((2 ^ 64 : Nat) : Int)).toNat = r by omega, show ((1 : Int) % ((2 ^ 64 : Nat) : Int)).toNat = 1 by omega, Nat.and_one_is_mod]
  exact IntWalk.i64_in _ (by omega)

set_option maxRecDepth 100000 in
set_option maxHeartbeats 4000000 in
theorem follow_any (bv : Value) (C : Chain) (hV : Valid C) (Bp Bm e : Nat) (cab0 : Nat → List Int) (w : World) {B : Nat} (hx : BookAt B w bv C) (hB : B ≤ w.heap.size) (hBp : B ≤ Bp) (hBm : B ≤ Bm) (he : e ≤ 4096)
    (hp : PastTo C.deeds.length Bp Bm cab0 C.deeds.length w) (h0 : cab0 0 = []) :
    Calls Try.prog 114 #[bv, pastV C.deeds.length Bp, .int .i64 e] w fun r w' =>
      r = .returned (.tuple #[]) ∧ KeptBut (fun j => j = Bp ∨ j = Bm) w w' ∧ PastTo C.deeds.length Bp Bm (story C.deeds (endsOf C.deeds e)) C.deeds.length w' := by
  obtain ⟨dv, sv, mv, rfl, hC, hM⟩ := hx
  obtain ⟨a, cap, b, off, a2, cap2, b2, off2, hv, hm, hm2, hcap, hcapm, HA, HC, HA2, HC2, HI, HI2⟩ := hC.opened
  cases hv
  have hnd := hV.nd
  have hd := hV.deed
  have HD := Lib.hid hd
  have hltp := hp.ltp
  have hltm := hp.ltm
  have hne := hp.ne
  have HP := Lib.hid (hp.zero (cab := story C.deeds (endsOf C.deeds e)) h0 rfl)
  clear hC hM HA2 HC2 HI2 hd hp
  obtain ⟨ends, hends⟩ : ∃ ends, endsOf C.deeds e = ends := ⟨_, rfl⟩
  have hen := fun k (hk : k < C.deeds.length) => hends ▸ endsOf_nth C.deeds e k hk
  have HEN := Lib.hid hen
  rw [hends] at HP ⊢
  have hok := story_ok (ends := ends) HD.out
  have HOK := Lib.hid hok
  clear hen hends hok h0
  go_enter Try.func114, Try.ntmps114
  go_wp2_with fail
  go_loopw [2, 6, 15] (fun en lk i wr => ∃ k : Nat, k ≤ C.deeds.length ∧ i = .int .i64 k ∧ lk = .int .i64 (weldsTo C.deeds k) ∧ en = .int .i64 (restE C.deeds e k) ∧ Hid (PastTo C.deeds.length Bp Bm (story C.deeds ends) k wr) ∧
      Hid (wr.heap[w.heap.size]? = some (.cells #[.slice a C.deeds.length cap, .slice a2 C.sights.length cap2, .int .i64 C.wrong, mv] 84)) ∧ Hid (KeptBut (fun j => j = Bp ∨ j = Bm) w wr) ∧ w.heap.size + 1 ≤ wr.heap.size) (fun _ _ i _ => C.deeds.length - (intOf i).toNat)
  case atStart =>
    exact ⟨0, Nat.zero_le _, rfl, rfl, rfl, HP.out.kept (own := fun j => j = w.heap.size) (KeptBut.of_below ((Below.refl _ w).alloc (Nat.le_refl _) _)) (by omega) (by omega), heap_new w _, (KeptBut.of_below ((Below.refl _ w).alloc (Nat.le_refl _) _)), by simp⟩
  case round =>
    clear HP
    obtain ⟨k, hk, rfl, rfl, rfl, hpt, hbox, hkb, hsz⟩ := hrel
    obtain ⟨c0, c1, c2, c3⟩ := box4' hbox.out
    have hrl := restE_le C.deeds e k
    by_cases hlt : k < C.deeds.length
    · obtain ⟨rfl, hb⟩ := HA.out (by omega)
      have hbw : Below B w wr := hkb.out.below hB (by rintro j (rfl | rfl) <;> assumption)
      obtain ⟨d0, d1, d2, d3, d4⟩ := (HC.out k hlt).below hbw hb
      have p0 := hdr_cell hpt.out (Nat.le_refl k)
      have p1 : ∃ l, l ≤ 12 ∧ wr.cell? ⟨Bp, k + 1, none⟩ = some (.slice (some ⟨Bm, (k + 1) * 12, none⟩) l 12) := by
        obtain ⟨arr, h1, h2, h3, h4⟩ := hpt.out.hdr
        obtain ⟨l, hl, h5⟩ := h4 (k + 1) (by omega) (by omega)
        exact ⟨l, hl, (cell_of h1 _).trans h5⟩
      obtain ⟨l, hl12, p1⟩ := p1
      have hlen := hpt.out.len k (Nat.le_refl k)
      have hp1 := hpt.out.ltp
      have hstp : story C.deeds ends (k + 1) = stepC (story C.deeds ends k) (dnth C.deeds k) (nth ends k) (weldsTo C.deeds k) := rfl
      have HSTP := Lib.hid hstp
      have hmid := hpt.out.mid hlt
      clear hstp
      obtain ⟨W, hW⟩ : ∃ W, W = wr.alloc (.cells #[.int .i64 (dnth C.deeds k).what, .int .i64 (dnth C.deeds k).at_, .int .i64 (nth ends k), .int .i64 (dnth C.deeds k).bar, .int .i64 (dnth C.deeds k).smith] 55) := ⟨_, rfl⟩
      have hbW : Below wr.heap.size wr W := hW ▸ (Below.refl _ _).alloc (Nat.le_refl _) _
      have hdb : W.heap[wr.heap.size]? = some (.cells #[.int .i64 (dnth C.deeds k).what, .int .i64 (dnth C.deeds k).at_, .int .i64 (nth ends k), .int .i64 (dnth C.deeds k).bar, .int .i64 (dnth C.deeds k).smith] 55) := hW ▸ heap_new wr _
      have q0 := (hbW.cell (p := ⟨Bp, k, none⟩) hp1).trans p0
      have q1 := (hbW.cell (p := ⟨Bp, k + 1, none⟩) hp1).trans p1
      have hcp : ∀ q ty, (Builtin.copy_ #[33, 33] ty #[.slice (some ⟨Bm, (k + 1) * 12, none⟩) (story C.deeds ends k).length 12, .slice (some ⟨Bm, k * 12, none⟩) (story C.deeds ends k).length 12]).run Try.prog (W.drewN q) =
          .ok (goInt (story C.deeds ends k).length) ((W.drewN q).setCells Bm ((k + 1) * 12) ((story C.deeds ends k).map (Value.int .i64))) := fun q ty => by
        obtain ⟨f, hR, hH⟩ := (hpt.out.kept (own := fun _ => False) ⟨hbW.os, hbW.tape, hbW.output, hbW.size, fun j hj _ => hbW.block j hj⟩ (fun h => h) (fun h => h)).mem
        have hR : RowAt Bm ((C.deeds.length + 1) * 12) f (W.drewN q) := hR
        have := run_copy_cells (P := Try.prog) (W.drewN q) 33 33 ty 3 Bm ((k + 1) * 12) (story C.deeds ends k).length 12 ⟨Bm, k * 12, none⟩ (story C.deeds ends k).length 12 ((story C.deeds ends k).map (Value.int .i64)) (by kernel_rfl) (by kernel_rfl) (by simp)
          (fun j v hj => by
            rw [List.getElem?_map] at hj
            have hjl : j < (story C.deeds ends k).length := by
              by_cases q : j < (story C.deeds ends k).length
              · exact q
              · rw [List.getElem?_eq_none (by omega)] at hj; cases hj
            rw [Addr.add_lit, hR.cell (by omega), hH k (Nat.le_refl k) j hjl, nth_lt hjl]
            rw [List.getElem?_eq_getElem hjl] at hj
            exact hj)
          (fun j hj => by rw [List.length_map] at hj; rw [hR.cell (by omega)]; rfl) (fun j _ => hR.frozen _) (by simp [Value.oneCell'])
        rw [List.length_map] at this
        exact this
      have hpm : ∀ q, PastMid C.deeds.length Bp Bm (story C.deeds ends) k (story C.deeds ends k) ((W.drewN q).setCells Bm ((k + 1) * 12) ((story C.deeds ends k).map (Value.int .i64))) := fun q =>
        (hpt.out.kept (own := fun _ => False) (W' := W.drewN q) ⟨hbW.os, hbW.tape, hbW.output, hbW.size, fun j hj _ => hbW.block j hj⟩ (fun h => h) (fun h => h)).mid hlt
      have HPM := Lib.hid hpm
      have hkw : ∀ q, KeptBut (fun j => j = Bm) W ((W.drewN q).setCells Bm ((k + 1) * 12) ((story C.deeds ends k).map (Value.int .i64))) := fun q => (kept_drewN W q).trans (kept_sets _ _ _)
      have HKW := Lib.hid hkw
      have HKB := Lib.hid (hkb.out.trans (KeptBut.of_below hbW))
      have HDB := Lib.hid hdb
      have HBX := Lib.hid ((hbW.block w.heap.size (by omega)).trans hbox.out)
      have hsW : wr.heap.size + 1 ≤ W.heap.size := by rw [hW]; simp
      have HW := Lib.hid hW
      clear hW hpm hkw hmid hdb hbW
      have hfin : ∀ (V : World) (c : List Int) (m : Nat), PastMid C.deeds.length Bp Bm (story C.deeds ends) k c V → c = story C.deeds ends (k + 1) → m = c.length → KeptBut (fun j => j = Bp ∨ j = Bm) w V → V.heap[w.heap.size]? = some (.cells #[.slice (some ⟨b, off, none⟩) C.deeds.length cap, .slice a2 C.sights.length cap2, .int .i64 C.wrong, mv] 84) →
          Hid (PastTo C.deeds.length Bp Bm (story C.deeds ends) (k + 1) (V.setCell ⟨Bp, k + 1, none⟩ (.slice (some ⟨Bm, (k + 1) * 12, none⟩) m 12))) ∧
          Hid ((V.setCell ⟨Bp, k + 1, none⟩ (.slice (some ⟨Bm, (k + 1) * 12, none⟩) m 12)).heap[w.heap.size]? = some (.cells #[.slice (some ⟨b, off, none⟩) C.deeds.length cap, .slice a2 C.sights.length cap2, .int .i64 C.wrong, mv] 84)) ∧
          Hid (KeptBut (fun j => j = Bp ∨ j = Bm) w (V.setCell ⟨Bp, k + 1, none⟩ (.slice (some ⟨Bm, (k + 1) * 12, none⟩) m 12))) ∧ w.heap.size + 1 ≤ (V.setCell ⟨Bp, k + 1, none⟩ (.slice (some ⟨Bm, (k + 1) * 12, none⟩) m 12)).heap.size := by
        rintro V c m hpmV hc rfl hkV hbV
        exact ⟨hpmV.store hlt hc.symm, (heap_setCell_other (by omega)).trans hbV, hkV.trans (KeptBut.setCell V ⟨Bp, k + 1, none⟩ _ (.inl rfl)), by rw [size_setCell]; have := heap_lt hbV; omega⟩
      have HFIN := Lib.hid hfin
      have hcell : ∀ (V : World) (c : List Int), PastMid C.deeds.length Bp Bm (story C.deeds ends) k c V → (∃ l, V.cell? ⟨Bp, k + 1, none⟩ = some (.slice (some ⟨Bm, (k + 1) * 12, none⟩) l 12)) ∧ V.frozen? ⟨Bp, k + 1, none⟩ = false := fun V c h => by
        obtain ⟨arr, h1, h2, h3, h4⟩ := h.hdr
        obtain ⟨l, hl, h5⟩ := h4 (k + 1) (by omega) (by omega)
        exact ⟨⟨l, (cell_of h1 _).trans h5⟩, frozen_of h1 _⟩
      have HCELL := Lib.hid hcell
      clear hfin hcell
      have hwle := weldsTo_le C.deeds k
      have hl11 : (story C.deeds ends k).length ≤ k := by have := (HOK.out k (by omega)).1; have := lenTo_le C.deeds k; omega
      have hDI : DeedIs (dnth C.deeds k) ((story C.deeds ends k).length : Int) := by rw [(HOK.out k (by omega)).1]; exact deedIs (HD.out k hlt)
      by_cases hf : (dnth C.deeds k).from_ = 2
      case pos =>
        have HEE := Lib.hid (show bits BinOp.and IntKind.i64 (restE C.deeds e k : Int) 1 = nth ends k from by
          rw [HEN.out k hlt, if_pos hf]; exact bits_one _ (by omega))
        have HRE := Lib.hid (show ((restE C.deeds e (k + 1) : Nat) : Int) = (restE C.deeds e k : Int) / 2 from by
          simp only [restE, if_pos hf]; omega)
        go_wp2_with fail
        rw [HEE.out, ← HW.out, ← HRE.out]
        go_quiet (fail)
        go_upto_region 10 with fail
        generalize hVV : (W.drewN nq).setCells Bm ((k + 1) * 12) ((story C.deeds ends k).map (Value.int .i64)) = V
        have HPV := Lib.hid (hVV ▸ HPM.out nq)
        have HKV := Lib.hid (hVV ▸ HKW.out nq)
        clear hVV hcp q0 q1 p0 p1 c0 c1 c2 c3 d0 d1 d2 d3 d4
        obtain ⟨v0, v1, v2, v3, v4⟩ := five_of ((HKV.out.block wr.heap.size (by omega) (by have := hpt.out.ltm; omega)).trans HDB.out)
        have hszV := HKV.out.size
        have hbxV := (HKV.out.block w.heap.size (by omega) (by omega)).trans HBX.out
        have HBV := Lib.hid hbxV
        have HKW2 := Lib.hid (HKB.out.trans (HKV.out.mono (own' := fun j => j = Bp ∨ j = Bm) (fun _ _ h => .inr h)))
        have hBmV : Bm < V.heap.size := HPV.out.ltm
        have hBpV : Bp < V.heap.size := HPV.out.ltp
        clear hbxV
        cases hDI with
        | weld hw a0 a1 =>
          rw [hw] at v0
          have hp := fromHead_lt (f := nth ends k) (n := (story C.deeds ends k).length + 1) a0 (by omega)
          obtain ⟨p, hpe⟩ : ∃ p : Nat, fromHead (dnth C.deeds k).at_ (nth ends k) ((story C.deeds ends k).length + 1) = p := ⟨_, (Int.toNat_of_nonneg hp.1).symm⟩
          have hpl : p ≤ (story C.deeds ends k).length := by omega
          have hcc : (story C.deeds ends k).take p ++ (weldsTo C.deeds k : Int) :: (story C.deeds ends k).drop p = story C.deeds ends (k + 1) := by
            rw [HSTP.out, stepC, if_pos hw, hpe, Int.toNat_natCast]
          have HCC := Lib.hid hcc
          have hwt : weldsTo C.deeds (k + 1) = weldsTo C.deeds k + 1 := by simp [weldsTo, hw]
          have HWT := Lib.hid hwt
          have HPE := Lib.hid hpe
          have hI : I64 (fromHead (dnth C.deeds k).at_ (nth ends k) ((story C.deeds ends k).length + 1)) := by rw [hpe]; unfold I64; omega
          clear hcc hwt hpe hp
          go_wp2_with fail
          refine (fromHead_any _ _ _ _ hI (by omega) (by omega)).mono ?_
          rintro r w1 ⟨rfl, rfl⟩
          rw [HPE.out]
          clear hI
          go_wp2_with fail
          obtain ⟨f, hR, hH, hc⟩ := HPV.out.mem
          obtain ⟨V1, hV1⟩ : ∃ V1, V1 = V.alloc (.cells #[.int .i64 (weldsTo C.deeds k)] 3) := ⟨_, rfl⟩
          have hka : KeptBut (fun _ => False) V V1 := hV1 ▸ (KeptBut.of_below ((Below.refl _ V).alloc (Nat.le_refl _) _)).mono (fun j hj h => by omega)
          have hvb := hV1 ▸ heap_new V (.cells #[.int .i64 (weldsTo C.deeds k)] 3)
          rw [← hV1]
          refine (insert_any Bm ((C.deeds.length + 1) * 12) ((k + 1) * 12) (story C.deeds ends k).length p V.heap.size 12 (story C.deeds ends k) (weldsTo C.deeds k) f V1 (hR.kept (hka.block _ hBmV (fun h => h))) hc rfl (by omega) (by omega) (by omega) hpl (by omega) ⟨_, hvb⟩).mono ?_
          rintro r V2 ⟨rfl, hk2, f', hR', hH', hff⟩
          have hPV2 := (HPV.out.kept hka (fun h => h) (fun h => h)).change hk2 hH hR' hH' hff (by simp; omega)
          have hb2 := (hk2.block w.heap.size (by have := heap_lt HBV.out; have := hka.size; omega) (by omega)).trans ((hka.block w.heap.size (heap_lt HBV.out) (fun h => h)).trans HBV.out)
          have hkk2 := (HKW2.out.trans (hka.mono (fun _ _ h => h.elim))).trans (hk2.mono (own' := fun j => j = Bp ∨ j = Bm) (fun _ _ h => .inr h))
          have HF := Lib.hid (HFIN.out V2 _ ((story C.deeds ends k).length + 1) hPV2 HCC.out (by simp; omega) hkk2 hb2)
          obtain ⟨⟨l', x1⟩, x2⟩ := HCELL.out V2 _ hPV2
          clear hR hH hc hka hvb hV1 hk2 hR' hH' hff hPV2 hb2 hkk2
          go_wp2_with fail
          exact ⟨⟨k + 1, by omega, by go_num, by rw [HWT.out]; go_num, rfl, HF.out.1, HF.out.2.1, HF.out.2.2.1, HF.out.2.2.2⟩, by simp [intOf]; omega⟩
        | cut hw a0 a1 =>
          rw [hw] at v0
          have hp := fromHead_lt (f := nth ends k) (n := (story C.deeds ends k).length) a0 (by omega)
          obtain ⟨p, hpe⟩ : ∃ p : Nat, fromHead (dnth C.deeds k).at_ (nth ends k) (story C.deeds ends k).length = p := ⟨_, (Int.toNat_of_nonneg hp.1).symm⟩
          have hpl : p < (story C.deeds ends k).length := by omega
          have hcc : (story C.deeds ends k).take p ++ (story C.deeds ends k).drop (p + 1) = story C.deeds ends (k + 1) := by
            rw [HSTP.out, stepC, if_neg (by rw [hw]; decide), if_pos hw, hpe, Int.toNat_natCast]
          have HCC := Lib.hid hcc
          have hwt : weldsTo C.deeds (k + 1) = weldsTo C.deeds k := by simp [weldsTo, hw]
          have HWT := Lib.hid hwt
          have HPE := Lib.hid hpe
          have hI : I64 (fromHead (dnth C.deeds k).at_ (nth ends k) (story C.deeds ends k).length) := by rw [hpe]; unfold I64; omega
          clear hcc hwt hpe hp
          go_wp2_with fail
          refine (fromHead_any _ _ _ _ hI (by omega) (by omega)).mono ?_
          rintro r w1 ⟨rfl, rfl⟩
          rw [HPE.out]
          clear hI
          go_wp2_with fail
          obtain ⟨f, hR, hH, hc⟩ := HPV.out.mem
          refine Calls.mono (show Calls Try.prog 123 _ _ _ from delete_any Bm ((C.deeds.length + 1) * 12) ((k + 1) * 12) (story C.deeds ends k).length p 12 (story C.deeds ends k) f V hR hc rfl (by omega) (by omega) (by omega) hpl) ?_
          rintro r V2 ⟨rfl, hk2, f', hR', hH', hff⟩
          have hPV2 := HPV.out.change hk2 hH hR' hH' hff (by simp; omega)
          have hb2 := (hk2.block w.heap.size (heap_lt HBV.out) (by omega)).trans HBV.out
          have hkk2 := HKW2.out.trans (hk2.mono (own' := fun j => j = Bp ∨ j = Bm) (fun _ _ h => .inr h))
          have HF := Lib.hid (HFIN.out V2 _ ((story C.deeds ends k).length - 1) hPV2 HCC.out (by simp; omega) hkk2 hb2)
          obtain ⟨⟨l', x1⟩, x2⟩ := HCELL.out V2 _ hPV2
          clear hR hH hc hk2 hR' hH' hff hPV2 hb2 hkk2
          go_wp2_with fail
          exact ⟨⟨k + 1, by omega, by go_num, by rw [HWT.out], rfl, HF.out.1, HF.out.2.1, HF.out.2.2.1, HF.out.2.2.2⟩, by simp [intOf]; omega⟩
        | turn hw a0 f0 => exact absurd (hf.symm.trans f0) (by decide)
        | prove hw a0 f0 => exact absurd (hf.symm.trans f0) (by decide)
      case neg =>
        have HEE := Lib.hid (show (dnth C.deeds k).from_ = nth ends k from by rw [HEN.out k hlt, if_neg hf])
        have HRE := Lib.hid (show restE C.deeds e (k + 1) = restE C.deeds e k from by simp only [restE, if_neg hf])
        go_wp2_with fail
        rw [HEE.out, ← HW.out, ← HRE.out]
        go_quiet (fail)
        go_upto_region 10 with fail
        generalize hVV : (W.drewN nq).setCells Bm ((k + 1) * 12) ((story C.deeds ends k).map (Value.int .i64)) = V
        have HPV := Lib.hid (hVV ▸ HPM.out nq)
        have HKV := Lib.hid (hVV ▸ HKW.out nq)
        clear hVV hcp q0 q1 p0 p1 c0 c1 c2 c3 d0 d1 d2 d3 d4
        obtain ⟨v0, v1, v2, v3, v4⟩ := five_of ((HKV.out.block wr.heap.size (by omega) (by have := hpt.out.ltm; omega)).trans HDB.out)
        have hszV := HKV.out.size
        have hbxV := (HKV.out.block w.heap.size (by omega) (by omega)).trans HBX.out
        have HBV := Lib.hid hbxV
        have HKW2 := Lib.hid (HKB.out.trans (HKV.out.mono (own' := fun j => j = Bp ∨ j = Bm) (fun _ _ h => .inr h)))
        have hBmV : Bm < V.heap.size := HPV.out.ltm
        have hBpV : Bp < V.heap.size := HPV.out.ltp
        clear hbxV
        cases hDI with
        | weld hw a0 a1 =>
          rw [hw] at v0
          have hp := fromHead_lt (f := nth ends k) (n := (story C.deeds ends k).length + 1) a0 (by omega)
          obtain ⟨p, hpe⟩ : ∃ p : Nat, fromHead (dnth C.deeds k).at_ (nth ends k) ((story C.deeds ends k).length + 1) = p := ⟨_, (Int.toNat_of_nonneg hp.1).symm⟩
          have hpl : p ≤ (story C.deeds ends k).length := by omega
          have hcc : (story C.deeds ends k).take p ++ (weldsTo C.deeds k : Int) :: (story C.deeds ends k).drop p = story C.deeds ends (k + 1) := by
            rw [HSTP.out, stepC, if_pos hw, hpe, Int.toNat_natCast]
          have HCC := Lib.hid hcc
          have hwt : weldsTo C.deeds (k + 1) = weldsTo C.deeds k + 1 := by simp [weldsTo, hw]
          have HWT := Lib.hid hwt
          have HPE := Lib.hid hpe
          have hI : I64 (fromHead (dnth C.deeds k).at_ (nth ends k) ((story C.deeds ends k).length + 1)) := by rw [hpe]; unfold I64; omega
          clear hcc hwt hpe hp
          go_wp2_with fail
          refine (fromHead_any _ _ _ _ hI (by omega) (by omega)).mono ?_
          rintro r w1 ⟨rfl, rfl⟩
          rw [HPE.out]
          clear hI
          go_wp2_with fail
          obtain ⟨f, hR, hH, hc⟩ := HPV.out.mem
          obtain ⟨V1, hV1⟩ : ∃ V1, V1 = V.alloc (.cells #[.int .i64 (weldsTo C.deeds k)] 3) := ⟨_, rfl⟩
          have hka : KeptBut (fun _ => False) V V1 := hV1 ▸ (KeptBut.of_below ((Below.refl _ V).alloc (Nat.le_refl _) _)).mono (fun j hj h => by omega)
          have hvb := hV1 ▸ heap_new V (.cells #[.int .i64 (weldsTo C.deeds k)] 3)
          rw [← hV1]
          refine (insert_any Bm ((C.deeds.length + 1) * 12) ((k + 1) * 12) (story C.deeds ends k).length p V.heap.size 12 (story C.deeds ends k) (weldsTo C.deeds k) f V1 (hR.kept (hka.block _ hBmV (fun h => h))) hc rfl (by omega) (by omega) (by omega) hpl (by omega) ⟨_, hvb⟩).mono ?_
          rintro r V2 ⟨rfl, hk2, f', hR', hH', hff⟩
          have hPV2 := (HPV.out.kept hka (fun h => h) (fun h => h)).change hk2 hH hR' hH' hff (by simp; omega)
          have hb2 := (hk2.block w.heap.size (by have := heap_lt HBV.out; have := hka.size; omega) (by omega)).trans ((hka.block w.heap.size (heap_lt HBV.out) (fun h => h)).trans HBV.out)
          have hkk2 := (HKW2.out.trans (hka.mono (fun _ _ h => h.elim))).trans (hk2.mono (own' := fun j => j = Bp ∨ j = Bm) (fun _ _ h => .inr h))
          have HF := Lib.hid (HFIN.out V2 _ ((story C.deeds ends k).length + 1) hPV2 HCC.out (by simp; omega) hkk2 hb2)
          obtain ⟨⟨l', x1⟩, x2⟩ := HCELL.out V2 _ hPV2
          clear hR hH hc hka hvb hV1 hk2 hR' hH' hff hPV2 hb2 hkk2
          go_wp2_with fail
          exact ⟨⟨k + 1, by omega, by go_num, by rw [HWT.out]; go_num, rfl, HF.out.1, HF.out.2.1, HF.out.2.2.1, HF.out.2.2.2⟩, by simp [intOf]; omega⟩
        | cut hw a0 a1 =>
          rw [hw] at v0
          have hp := fromHead_lt (f := nth ends k) (n := (story C.deeds ends k).length) a0 (by omega)
          obtain ⟨p, hpe⟩ : ∃ p : Nat, fromHead (dnth C.deeds k).at_ (nth ends k) (story C.deeds ends k).length = p := ⟨_, (Int.toNat_of_nonneg hp.1).symm⟩
          have hpl : p < (story C.deeds ends k).length := by omega
          have hcc : (story C.deeds ends k).take p ++ (story C.deeds ends k).drop (p + 1) = story C.deeds ends (k + 1) := by
            rw [HSTP.out, stepC, if_neg (by rw [hw]; decide), if_pos hw, hpe, Int.toNat_natCast]
          have HCC := Lib.hid hcc
          have hwt : weldsTo C.deeds (k + 1) = weldsTo C.deeds k := by simp [weldsTo, hw]
          have HWT := Lib.hid hwt
          have HPE := Lib.hid hpe
          have hI : I64 (fromHead (dnth C.deeds k).at_ (nth ends k) (story C.deeds ends k).length) := by rw [hpe]; unfold I64; omega
          clear hcc hwt hpe hp
          go_wp2_with fail
          refine (fromHead_any _ _ _ _ hI (by omega) (by omega)).mono ?_
          rintro r w1 ⟨rfl, rfl⟩
          rw [HPE.out]
          clear hI
          go_wp2_with fail
          obtain ⟨f, hR, hH, hc⟩ := HPV.out.mem
          refine Calls.mono (show Calls Try.prog 123 _ _ _ from delete_any Bm ((C.deeds.length + 1) * 12) ((k + 1) * 12) (story C.deeds ends k).length p 12 (story C.deeds ends k) f V hR hc rfl (by omega) (by omega) (by omega) hpl) ?_
          rintro r V2 ⟨rfl, hk2, f', hR', hH', hff⟩
          have hPV2 := HPV.out.change hk2 hH hR' hH' hff (by simp; omega)
          have hb2 := (hk2.block w.heap.size (heap_lt HBV.out) (by omega)).trans HBV.out
          have hkk2 := HKW2.out.trans (hk2.mono (own' := fun j => j = Bp ∨ j = Bm) (fun _ _ h => .inr h))
          have HF := Lib.hid (HFIN.out V2 _ ((story C.deeds ends k).length - 1) hPV2 HCC.out (by simp; omega) hkk2 hb2)
          obtain ⟨⟨l', x1⟩, x2⟩ := HCELL.out V2 _ hPV2
          clear hR hH hc hk2 hR' hH' hff hPV2 hb2 hkk2
          go_wp2_with fail
          exact ⟨⟨k + 1, by omega, by go_num, by rw [HWT.out], rfl, HF.out.1, HF.out.2.1, HF.out.2.2.1, HF.out.2.2.2⟩, by simp [intOf]; omega⟩
        | turn hw a0 f0 b0 s0 =>
          clear a0 f0 b0 s0
          rw [hw] at v0
          have hcc : (story C.deeds ends k).reverse = story C.deeds ends (k + 1) := by
            rw [HSTP.out, stepC, if_neg (by rw [hw]; decide), if_neg (by rw [hw]; decide), if_pos hw]
          have HCC := Lib.hid hcc
          have hwt : weldsTo C.deeds (k + 1) = weldsTo C.deeds k := by simp [weldsTo, hw]
          have HWT := Lib.hid hwt
          clear hcc hwt
          go_wp2_with fail
          obtain ⟨f, hR, hH, hc⟩ := HPV.out.mem
          refine (reverse_any Bm ((C.deeds.length + 1) * 12) ((k + 1) * 12) (story C.deeds ends k).length 12 (story C.deeds ends k) f V hR hc rfl (by omega) (by omega) (by omega)).mono ?_
          rintro r V2 ⟨rfl, hk2, f', hR', hH', hff⟩
          have hPV2 := HPV.out.change hk2 hH hR' hH' hff (by simp; omega)
          have hb2 := (hk2.block w.heap.size (heap_lt HBV.out) (by omega)).trans HBV.out
          have hkk2 := HKW2.out.trans (hk2.mono (own' := fun j => j = Bp ∨ j = Bm) (fun _ _ h => .inr h))
          have HF := Lib.hid (HFIN.out V2 _ (story C.deeds ends k).length hPV2 HCC.out (by simp) hkk2 hb2)
          obtain ⟨⟨l', x1⟩, x2⟩ := HCELL.out V2 _ hPV2
          clear hR hH hc hk2 hR' hH' hff hPV2 hb2 hkk2
          go_wp2_with fail
          exact ⟨⟨k + 1, by omega, by go_num, by rw [HWT.out], rfl, HF.out.1, HF.out.2.1, HF.out.2.2.1, HF.out.2.2.2⟩, by simp [intOf]; omega⟩
        | prove hw a0 f0 b0 s0 =>
          clear a0 f0 b0 s0
          rw [hw] at v0
          have hcc : story C.deeds ends k = story C.deeds ends (k + 1) := by
            rw [HSTP.out, stepC, if_neg (by rw [hw]; decide), if_neg (by rw [hw]; decide), if_neg (by rw [hw]; decide)]
          have HF := Lib.hid (HFIN.out V _ (story C.deeds ends k).length HPV.out hcc rfl HKW2.out HBV.out)
          have hwt : weldsTo C.deeds (k + 1) = weldsTo C.deeds k := by simp [weldsTo, hw]
          have HWT := Lib.hid hwt
          obtain ⟨⟨l', x1⟩, x2⟩ := HCELL.out V _ HPV.out
          clear hcc hwt
          go_wp2_with fail
          exact ⟨⟨k + 1, by omega, by go_num, by rw [HWT.out], rfl, HF.out.1, HF.out.2.1, HF.out.2.2.1, HF.out.2.2.2⟩, by simp [intOf]; omega⟩
    · obtain rfl : C.deeds.length = k := by omega
      go_wp2_with fail
      go_end0
      exact ⟨rfl, hkb.out, hpt.out⟩

end Go.Proofs.Ytgjikoebneiamaa
