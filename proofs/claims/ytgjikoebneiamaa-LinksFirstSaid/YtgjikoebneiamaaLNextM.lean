/-
  Links: how many truths have which mark, as the datum of a map; the greatest number.
  Links: the greatest number in a map that counts marks.
  'm[k]++' in a region that draws its order: the look-up and the place in the map come in whatever order.
  'm[k]++' in a region that draws its order, inside a fence.
-/
import Derived.Test.YtgjikoebneiamaaLRef1
import Derived.Maps.OwnOps
import Derived.Maps.RangeWalk
import Derived.Maps.Views
import Derived.DeepKeys4
import Derived.Test.YtgjikoebneiamaaLSrc
import Derived.Test.YtgjikoebneiamaaLVals
import Derived.WideKeyEntry
import Derived.OrdersIn
import Derived.TacticsIn

namespace Go.Proofs.Ytgjikoebneiamaa
open Go.RowKit Go.Maps

/-- A mark's key. -/
def klM (m : Int × Int) : Lit := .string (keyBytes [.int .i64 m.1, .int .i64 m.2])
def markV (m : Int × Int) : Value := .agg #[.int .i64 m.1, .int .i64 m.2]
theorem mark_laid : laidOutB Try.prog = true := by kernel_rfl
theorem mark_wide : (match Try.prog.underlying 99 with | some (.array _ _) | some (.struct _) => true | _ => false) = true := by kernel_rfl
theorem rmark_wide : (match Try.prog.underlying 111 with | some (.array _ _) | some (.struct _) => true | _ => false) = true := by kernel_rfl
theorem mark_row : (99 : TypeId) < Try.prog.types.size := of_decide_eq_true (by kernel_rfl)
theorem mark_at : Try.prog.keyTypeAt 2 99 = true := by kernel_rfl
set_option maxRecDepth 100000 in
theorem mark_klaw : WideMaps.KeyLaw Try.prog 99 := (deep_law_laid mark_laid (m := 2) (by omega) mark_row mark_at mark_wide)
theorem rmark_row : (111 : TypeId) < Try.prog.types.size := of_decide_eq_true (by kernel_rfl)
theorem rmark_at : Try.prog.keyTypeAt 2 111 = true := by kernel_rfl
set_option maxRecDepth 100000 in
theorem rmark_klaw : WideMaps.KeyLaw Try.prog 111 := (deep_law_laid mark_laid (m := 2) (by omega) rmark_row rmark_at rmark_wide)
theorem mark_law : Keyed Try.prog 99 := Keyed.of_law mark_klaw
theorem rmark_law : Keyed Try.prog 111 := Keyed.of_law rmark_klaw
theorem mark_type : Try.prog.keyType 99 = true := by kernel_rfl
theorem rmark_type : Try.prog.keyType 111 = true := by kernel_rfl
theorem mark_cells : Try.prog.cellsOf 99 = 2 := by kernel_rfl
theorem rmark_cells : Try.prog.cellsOf 111 = 2 := by kernel_rfl
theorem int_cells : Try.prog.cellsOf 3 = 1 := by kernel_rfl
theorem types_two : ∃ n, Try.prog.types.size = n + 2 := ⟨Try.prog.types.size - 2, by decide +kernel⟩
theorem wf_of {a : Int} (h : I64 a) : (Lit.int .i64 a).wf = true := WalkArith.wf_i64 h

set_option maxRecDepth 100000 in
theorem key_mark {m : Int × Int} (h : I64 m.1 ∧ I64 m.2) : keyOf Try.prog 99 (markV m) = some (klM m) := by
  obtain ⟨a, b⟩ := m
  have wa := wf_of h.1
  have wb := wf_of h.2
  have hf : (Value.agg #[.int .i64 a, .int .i64 b]).formed Try.prog 99 = true := by simp [Value.formed, Try.underlying99, mark_cells]
  obtain ⟨n, hn⟩ := types_two
  have hl : Try.prog.keyLits (n + 2 + 1) 99 [.int .i64 a, .int .i64 b] = some [.int .i64 a, .int .i64 b] := by
    simp [Program.keyLits, Try.underlying99, Try.underlying3, mark_cells, int_cells, wa, wb]
  have hc : (Value.agg #[.int .i64 a, .int .i64 b]).cells.toList = [.int .i64 a, .int .i64 b] := rfl
  unfold keyOf markV
  simp only [Try.underlying99, mark_type, hf, hn, hc, hl]
  rfl
set_option maxRecDepth 100000 in
theorem key_rmark {m : Int × Int} (h : I64 m.1 ∧ I64 m.2) : keyOf Try.prog 111 (markV m) = some (klM m) := by
  obtain ⟨a, b⟩ := m
  have wa := wf_of h.1
  have wb := wf_of h.2
  have hf : (Value.agg #[.int .i64 a, .int .i64 b]).formed Try.prog 111 = true := by simp [Value.formed, Try.underlying111, rmark_cells]
  obtain ⟨n, hn⟩ := types_two
  have hl : Try.prog.keyLits (n + 2 + 1) 111 [.int .i64 a, .int .i64 b] = some [.int .i64 a, .int .i64 b] := by
    simp [Program.keyLits, Try.underlying111, Try.underlying3, rmark_cells, int_cells, wa, wb]
  have hc : (Value.agg #[.int .i64 a, .int .i64 b]).cells.toList = [.int .i64 a, .int .i64 b] := rfl
  unfold keyOf markV
  simp only [Try.underlying111, rmark_type, hf, hn, hc, hl]
  rfl
theorem klM_inj {m k : Int × Int} (hm : I64 m.1 ∧ I64 m.2) (hk : I64 k.1 ∧ I64 k.2) (h : klM m = klM k) : m = k := by
  have := mark_law.inj (h ▸ key_mark hm) (key_mark hk)
  simp only [markV, Value.agg.injEq, Array.mk.injEq, List.cons.injEq, Value.int.injEq, and_true, true_and] at this
  exact Prod.ext this.1 this.2
theorem klM_key {m : Int × Int} (hm : I64 m.1 ∧ I64 m.2) : WideAt.IsKeyLit (klM m) := mark_law.key (key_mark hm)

/-- How often a mark is among some. -/
def cntM (m : Int × Int) : List (Int × Int) → Nat
  | [] => 0
  | k :: ms => cntM m ms + if k = m then 1 else 0
/-- A map that counts marks, the last of which stands first. -/
def datM : List (Int × Int) → DataW Unit
  | [] => .map []
  | m :: ms => (datM ms).put (klM m) (.lit (.int .i64 (cntM m ms + 1 : Nat)))
def OkM (ms : List (Int × Int)) : Prop := ∀ m ∈ ms, I64 m.1 ∧ I64 m.2
theorem datM_map : ∀ ms : List (Int × Int), IsMap (datM ms)
  | [] => isMap_empty
  | m :: ms => (datM_map ms).put _ _
theorem datM_at {m : Int × Int} (hm : I64 m.1 ∧ I64 m.2) : ∀ {ms : List (Int × Int)}, OkM ms → (datM ms).atKey (klM m) (.lit (.int .i64 0)) = .lit (.int .i64 (cntM m ms : Nat))
  | [], _ => rfl
  | k :: ms, h => by
    have hk := h k (.head _)
    simp only [datM, cntM]
    by_cases e : k = m
    · subst e
      rw [atKey_put_same (datM_map ms) (klM_key hk), if_pos rfl]
    · rw [atKey_put_other (fun q => e (klM_inj hm hk q).symm), if_neg e, datM_at hm (fun x hx => h x (.tail _ hx))]
      rfl
theorem datM_has {l : Lit} : ∀ {ms : List (Int × Int)}, OkM ms → has (datM ms) l = true → ∃ m ∈ ms, klM m = l
  | [], _, h => by cases h
  | k :: ms, hok, h => by
    simp only [datM] at h
    by_cases e : l = klM k
    · exact ⟨k, .head _, e.symm⟩
    · rw [has_put_other e] at h
      obtain ⟨m, hm, hl⟩ := datM_has (fun x hx => hok x (.tail _ hx)) h
      exact ⟨m, .tail _ hm, hl⟩
theorem has_datM {m : Int × Int} : ∀ {ms : List (Int × Int)}, OkM ms → m ∈ ms → has (datM ms) (klM m) = true
  | k :: ms, hok, h => by
    simp only [datM]
    by_cases e : klM m = klM k
    · rw [e]; exact has_put_same (datM_map ms) (klM_key (hok k (.head _))) _
    · rw [has_put_other e]
      rcases List.mem_cons.1 h with rfl | h
      · exact absurd rfl e
      · exact has_datM (fun x hx => hok x (.tail _ hx)) h
theorem cntM_pos {m : Int × Int} : ∀ {ms : List (Int × Int)}, m ∈ ms → 0 < cntM m ms
  | k :: ms, h => by
    simp only [cntM]
    rcases List.mem_cons.1 h with rfl | h
    · rw [if_pos rfl]; omega
    · have := cntM_pos h; omega
theorem cntM_le (m : Int × Int) : ∀ ms : List (Int × Int), cntM m ms ≤ ms.length
  | [] => Nat.le_refl _
  | k :: ms => by
    have := cntM_le m ms
    simp only [cntM, List.length_cons]
    split <;> omega
theorem cntM_perm {a b : List (Int × Int)} (h : a.Perm b) (m : Int × Int) : cntM m a = cntM m b := by
  induction h with
  | nil => rfl
  | cons x _ ih => simp only [cntM, ih]
  | swap x y l => simp only [cntM]; omega
  | trans _ _ h1 h2 => rw [h1, h2]
/-- The greatest number of marks that are alike. -/
def mostM (ms : List (Int × Int)) : Nat := ms.foldl (fun n m => max n (cntM m ms)) 0
theorem most_fold (ms : List (Int × Int)) : ∀ (l : List (Int × Int)) (n : Nat), n ≤ l.foldl (fun n m => max n (cntM m ms)) n ∧ (∀ m ∈ l, cntM m ms ≤ l.foldl (fun n m => max n (cntM m ms)) n) ∧ (l.foldl (fun n m => max n (cntM m ms)) n = n ∨ ∃ m ∈ l, l.foldl (fun n m => max n (cntM m ms)) n = cntM m ms)
  | [], n => ⟨Nat.le_refl _, by simp, .inl rfl⟩
  | k :: l, n => by
    obtain ⟨h1, h2, h3⟩ := most_fold ms l (max n (cntM k ms))
    rw [List.foldl_cons]
    refine ⟨by omega, fun m hm => ?_, ?_⟩
    · rcases List.mem_cons.1 hm with rfl | hm
      · omega
      · exact h2 m hm
    · rcases h3 with h3 | ⟨m, hm, h3⟩
      · by_cases e : cntM k ms ≤ n
        · exact .inl (by omega)
        · exact .inr ⟨k, .head _, by omega⟩
      · exact .inr ⟨m, .tail _ hm, h3⟩
theorem most_is {ms : List (Int × Int)} {n : Nat} (h1 : ∀ m ∈ ms, cntM m ms ≤ n) (h2 : n = 0 ∨ ∃ m ∈ ms, n = cntM m ms) : n = mostM ms := by
  obtain ⟨_, g2, g3⟩ := most_fold ms ms 0
  have e1 : mostM ms ≤ n := by
    rcases g3 with g3 | ⟨m, hm, g3⟩
    · show ms.foldl _ 0 ≤ n; omega
    · show ms.foldl _ 0 ≤ n; rw [g3]; exact h1 m hm
  have e2 : n ≤ mostM ms := by
    rcases h2 with h2 | ⟨m, hm, h2⟩
    · omega
    · rw [h2]; exact g2 m hm
  omega
theorem most_spec (ms : List (Int × Int)) : (∀ m ∈ ms, cntM m ms ≤ mostM ms) ∧ (mostM ms = 0 ∨ ∃ m ∈ ms, mostM ms = cntM m ms) := (most_fold ms ms 0).2
theorem most_perm {a b : List (Int × Int)} (h : a.Perm b) : mostM a = mostM b := by
  obtain ⟨h1, h2⟩ := most_spec a
  refine most_is (fun m hm => ?_) ?_
  · rw [← cntM_perm h]; exact h1 m (h.mem_iff.2 hm)
  · rcases h2 with h2 | ⟨m, hm, h2⟩
    · exact .inl h2
    · exact .inr ⟨m, h.mem_iff.1 hm, by rw [h2, cntM_perm h]⟩
end Go.Proofs.Ytgjikoebneiamaa

namespace Go.Proofs.Ytgjikoebneiamaa
open Go.RowKit Go.Maps

theorem zero_int (w : World) : (zeroValue 3).run Try.prog w = .ok (.int .i64 0) w := by kernel_rfl
theorem wf_nat {n : Nat} (h : n ≤ 5000) : (Lit.int .i64 (n : Int)).wf = true := WalkArith.wf_i64 (by omega)

set_option maxRecDepth 100000 in
set_option maxHeartbeats 4000000 in
theorem greatest_any (b n : Nat) (ms : List (Int × Int)) (hok : OkM ms) (hlen : ms.length ≤ 4096) (w : World) (hown : w.ownsMap Try.prog 99 (plainElem Try.prog 3) b n (datM ms)) :
    Calls Try.prog 94 #[.map (some b)] w fun e w' => e = .returned (.int .i64 (mostM ms : Nat)) ∧ Below w.heap.size w w' := by
  have HOK := Lib.hid hok
  clear hok
  go_enter Try.func94, Try.ntmps94
  go_wp2_with (first
    | (at_range; refine wpList_range_own _ rfl _ 107 rfl 99 3 mark_law Try.underlying107 _ b n _ rfl hown ?_; intro w0 hrg0 hg0 hs0)
    | go_in)
  go_frame
  go_loopw [3] (fun o wr => ∃ (left : Lit → Bool) (cnt : Nat), wr.ranges Try.prog 99 (plainElem Try.prog 3) b w.heap.size n (datM ms) left cnt ∧ Hid (∀ l, left l = true → has (datM ms) l = true) ∧
      (∃ q : Nat, o = .int .i64 q ∧ q ≤ 4096 ∧ Hid (∀ m ∈ ms, left (klM m) = true ∨ cntM m ms ≤ q) ∧ Hid (q = 0 ∨ ∃ m ∈ ms, q = cntM m ms)) ∧ Hid (Below w.heap.size w wr))
    (fun _ wr => wr.rangeLeft b w.heap.size)
  case atStart => exact ⟨_, _, hrg0, fun _ h => h, ⟨0, rfl, Nat.zero_le _, fun m hm => .inl (has_datM HOK.out hm), .inl rfl⟩, (Below.refl _ w).grown hg0 (Nat.le_refl _) (fun j hj => by cases hj)⟩
  case round =>
    obtain ⟨left, cnt, hrg, hsub, ⟨q, rfl, hq, hall, hsome⟩, hbl⟩ := hrel
    go_wp2_with (first
      | (at_next; refine wpList_next_ranges _ rfl _ rfl 99 mark_law (plainElem Try.prog 3) (fun v : Value => v) (Value.int .i64) (fun key _ _ => ⟨key, rfl⟩) (fun v y h => by obtain ⟨c, h1, _⟩ := plainElem_int_inv Try.underlying3 h; exact ⟨c, h1⟩) b w.heap.size n _ _ _ rfl hrg ?_ ?_)
      | go_in)
    · intro _ hl0
      have HN := Lib.hid (most_is (n := q) (fun m hm => by
        rcases hall.out m hm with h | h
        · rw [hl0] at h; cases h
        · exact h) hsome.out)
      go_wp2
      go_ret
      exact ⟨by rw [← HN.out]; rfl, hbl.out⟩
    · intro x c kl y ps w1 cnt1 hkey hlk hR hat hrg1 hlt hg1 hs1 hen
      obtain ⟨m, hm, hkm⟩ := datM_has HOK.out (hsub.out kl hlk)
      have hcm := cntM_le m ms
      obtain rfl : c = (cntM m ms : Nat) := by
        have h1 := datM_at (HOK.out m hm) HOK.out
        rw [hkm, hat] at h1
        obtain ⟨c', h2, h3, _⟩ := plainElem_int_inv Try.underlying3 hR
        cases h2
        simp only [Prod.mk.injEq] at h3
        rw [h3.1] at h1
        simpa using h1
      have HM := Lib.hid hm
      have HKM := Lib.hid hkm
      obtain ⟨r, hr⟩ : ∃ r, cntM m ms = r := ⟨_, rfl⟩
      have HR := Lib.hid hr
      rw [hr] at hcm hen ⊢
      have hr4 : r ≤ 4096 := by omega
      clear hr hm hkm hat hR hkey
      have hmx : max ((q : Nat) : Int) ((r : Nat) : Int) = ((max q r : Nat) : Int) := by omega
      go_wp2
      go_roundw
      case rel =>
        refine ⟨_, cnt1, hrg1, fun l h => hsub.out l (by simp only [Bool.and_eq_true] at h; exact h.1), ⟨max q r, by rw [← hmx], by omega, fun k hk => ?_, ?_⟩, ?_⟩
        · rcases hall.out k hk with h | h
          · by_cases e : k = m
            · subst e
              rw [HR.out]; right; omega
            · left
              rw [h, Bool.true_and, ← HKM.out, sameKey_ne (fun q => e (klM_inj (HOK.out k hk) (HOK.out m HM.out) q))]
              rfl
          · right; omega
        · by_cases e : r ≤ q
          · rcases hsome.out with h | ⟨k, hk, h⟩
            · exact .inl (by omega)
            · exact .inr ⟨k, hk, by omega⟩
          · exact .inr ⟨m, HM.out, by rw [HR.out]; omega⟩
        · exact hbl.out.grown hg1 hbl.out.size (fun j hj => by cases hj; exact Nat.le_refl _)
      case measure => rw [hrg1.left_eq, hrg.left_eq]; exact hlt
end Go.Proofs.Ytgjikoebneiamaa

namespace Go.Proofs.Ytgjikoebneiamaa
open Go.RowKit Go.Maps Go.ChangeMaps Go.MapKept

section
variable {P : Program} {ops : Array Oper} {Q : Exit → Act → World → Prop}

/-- A region's first n operations by facts; the rest in whatever order they come. -/
theorem wp_region_factsA {id : Nat} {a0 : Act} {w : World} (l : List Oper) (n : Nat) (ds : List Nat) (ps : List Fact) (hm : P.follows .mixedOrders = true)
    (hwt : waitsB .any l.toArray n = true) (hn : ds.length = n) (hle : n ≤ l.length) (hnd : ds.Nodup) (hlt : ∀ d ∈ ds, d < a0.tmps.size)
    (hstep : ∀ i a W d, i < n → ds[i]? = some d → Below w.heap.size w W → (∀ t, t ∉ ds → a.eval (.tmp t) = a0.eval (.tmp t)) →
      (∀ j e, (depsOf .any l.toArray i).contains j = true → ds[j]? = some e → factAt ps j (a.eval (.tmp e)) W) →
      wpOp P l.toArray Q i (fun a' W' => ∃ v, a' = a.put (some d) v ∧ Below W.heap.size W W' ∧ factAt ps i v W') a W)
    (hrest : ∀ vs W, vs.length = n → Below w.heap.size w W → (∀ i, i < n → ∃ v, vs[i]? = some v ∧ factAt ps i v W) → wpAny P .any l.toArray Q (l.length - n) (Array.replicate n true ++ Array.replicate (l.length - n) false) (putL a0 ds vs) W) :
    (Code.region id l.toArray true).wp P Q a0 w := by
  refine wp_region_any hm ?_
  have hb0 : Below w.heap.size w { w with drawn := w.drawn + 1 } := ⟨rfl, rfl, rfl, Nat.le_refl _, fun _ _ => rfl⟩
  have hI0 : FactsI l.toArray ps n ds a0 w (Array.replicate l.length false) a0 { w with drawn := w.drawn + 1 } := by
    obtain ⟨vs, h1, h2⟩ := putL_same hlt
    have hf : ∀ i, (Array.replicate l.length false).getD i false = false := fun i => by simp [Array.getD]
    have hno : ∀ i, (Array.replicate l.length false).getD i false = true → False := fun i h => by rw [hf] at h; cases h
    exact ⟨hb0, by simp, fun i h => (hno i h).elim, fun i h => (hno i h).elim, vs, by rw [h1, hn], h2, fun i _ h => (hno i h).elim⟩
  have := wpAny_facts (P := P) (ops := l.toArray) (Q := Q) (ps := ps) (n := n) (ds := ds) (a0 := a0) (w := w) (l.length - n) hn (by simpa using hle) hwt hnd hlt hstep
    (fun listed a W hI hall => by
      obtain ⟨vs, h1, rfl, h2⟩ := hI.act
      have hL : listed = Array.replicate n true ++ Array.replicate (l.length - n) false := by
        apply Array.ext_getElem?
        intro i
        have hsz := hI.sz
        simp only [List.size_toArray] at hsz
        by_cases hi : i < n
        · have := hall i hi
          rw [Array.getElem?_append_left (by simpa using hi)]
          have hil : i < listed.size := by omega
          simp only [Array.getD, hil, dif_pos] at this
          rw [Array.getElem?_eq_getElem hil, Array.getElem?_replicate, if_pos hi]
          exact congrArg some this
        · rw [Array.getElem?_append_right (by simp; omega)]
          by_cases hil : i < listed.size
          · have : ¬ listed.getD i false = true := fun h => hi (hI.lo i h)
            simp only [Array.getD, hil, dif_pos, Bool.not_eq_true] at this
            rw [Array.getElem?_eq_getElem hil, Array.getElem?_replicate, if_pos (by simp; omega)]
            exact congrArg some this
          · rw [Array.getElem?_eq_none (by omega), Array.getElem?_eq_none (by simp; omega)]
      subst hL
      exact hrest vs W h1 hI.bl (fun i hi => h2 i hi (hall i hi)))
    n (Array.replicate l.length false) a0 { w with drawn := w.drawn + 1 } (unl_none _ _) hI0
  rw [show n + (l.length - n) = l.toArray.size by simp; omega] at this
  simpa using this

/-- n operations that are done, and some that are or are not. -/
def doneL (n : Nat) (bs : List Bool) : Array Bool := (List.replicate n true ++ bs).toArray
theorem doneL_set (n k : Nat) (bs : List Bool) : (doneL n bs).setIfInBounds (n + k) true = doneL n (bs.set k true) := by
  simp [doneL, List.set_append]
/-- Which of the last five may come next. -/
def incrB (ops : Array Oper) (n : Nat) : Bool :=
  decide (Region.ready .any ops (doneL n [false, false, false, false, false]) = [n, n + 2]) && (decide (Region.ready .any ops (doneL n [true, false, false, false, false]) = [n + 1, n + 2]) &&
  (decide (Region.ready .any ops (doneL n [true, true, false, false, false]) = [n + 2]) && (decide (Region.ready .any ops (doneL n [false, false, true, false, false]) = [n, n + 3]) &&
  (decide (Region.ready .any ops (doneL n [true, false, true, false, false]) = [n + 1, n + 3]) && (decide (Region.ready .any ops (doneL n [true, true, true, false, false]) = [n + 3]) &&
  (decide (Region.ready .any ops (doneL n [false, false, true, true, false]) = [n]) && (decide (Region.ready .any ops (doneL n [true, false, true, true, false]) = [n + 1]) &&
  (decide (Region.ready .any ops (doneL n [true, true, true, true, false]) = [n + 4]) && decide (Region.ready .any ops (doneL n [true, true, true, true, true]) = [])))))))))

/-- What holds under way: which of the four values has come; the map has its place behind the third. -/
def IncrI (a0 : Act) (ds : List Nat) (x0 x1 x2 x3 : Value) (W0 W1 : World) (b0 b1 b2 b3 : Bool) (a : Act) (W : World) : Prop :=
  ∃ v0 v1 v2 v3, a = putL a0 ds [v0, v1, v2, v3] ∧ (b0 = true → v0 = x0) ∧ (b1 = true → v1 = x1) ∧ (b2 = true → v2 = x2) ∧ (b3 = true → v3 = x3) ∧ W = if b2 = true then W1 else W0

theorem wpAny_incr {n sL sA sE sX : Nat} {mo xo : Operand} {t : TypeId} {mv key sv v0 : Value} {c c1 : Int} {a0 : Act} {W0 W1 W2 : World} {oL oA oE oX oS : Oper} (hB : incrB ops n = true)
    (hL : ops[n]? = some oL) (hA : ops[n + 1]? = some oA) (hE : ops[n + 2]? = some oE) (hX : ops[n + 3]? = some oX) (hS : ops[n + 4]? = some oS)
    (gL : oL.guard = none) (gA : oA.guard = none) (gE : oE.guard = none) (gX : oX.guard = none) (gS : oS.guard = none)
    (dL : oL.dst = some sL) (dA : oA.dst = some sA) (dE : oE.dst = some sE) (dX : oX.dst = some sX) (dS : oS.dst = none)
    (hnd : [sL, sA, sE, sX].Nodup) (hlt : ∀ d ∈ [sL, sA, sE, sX], d < a0.tmps.size)
    (rL : ∀ (a : Act) (W : World), a.eval mo = mv → a.eval xo = key → (W = W0 ∨ W = W1) → (execOp a.eval oL).run P W = .ok (.value (.int .i64 c)) W)
    (rA : ∀ (a : Act) (W : World), a.eval (.tmp sL) = .int .i64 c → (execOp a.eval oA).run P W = .ok (.value (.int .i64 c1)) W)
    (rE : ∀ (a : Act), a.eval mo = mv → a.eval xo = key → (execOp a.eval oE).run P W0 = .ok (.value (.tuple #[v0, sv])) W1)
    (rX : ∀ (a : Act) (W : World), a.eval (.tmp sE) = .tuple #[v0, sv] → (execOp a.eval oX).run P W = .ok (.value sv) W)
    (rS : ∀ (a : Act), a.eval mo = mv → a.eval (.tmp sX) = sv → a.eval (.tmp sA) = .int .i64 c1 → (execOp a.eval oS).run P W1 = .ok .skip W2)
    (hmo : ∀ vs, (putL a0 [sL, sA, sE, sX] vs).eval mo = mv) (hxo : ∀ vs, (putL a0 [sL, sA, sE, sX] vs).eval xo = key)
    (hQ : Q .normal (putL a0 [sL, sA, sE, sX] [.int .i64 c, .int .i64 c1, .tuple #[v0, sv], sv]) W2) :
    wpAny P .any ops Q 5 (doneL n [false, false, false, false, false]) a0 W0 := by
  simp only [incrB, Bool.and_eq_true, decide_eq_true_eq] at hB
  obtain ⟨q00, q10, q20, q01, q11, q21, q02, q12, q22, q3⟩ := hB
  have hset := doneL_set n
  have hset0 : ∀ bs : List Bool, (doneL n bs).setIfInBounds n true = doneL n (bs.set 0 true) := fun bs => doneL_set n 0 bs
  have I0 : ∀ {b1 b2 b3 : Bool} {a : Act} {W : World} {K : Act → World → Prop}, IncrI a0 [sL, sA, sE, sX] (.int .i64 c) (.int .i64 c1) (.tuple #[v0, sv]) sv W0 W1 false b1 b2 b3 a W →
      (∀ a' W', IncrI a0 [sL, sA, sE, sX] (.int .i64 c) (.int .i64 c1) (.tuple #[v0, sv]) sv W0 W1 true b1 b2 b3 a' W' → K a' W') → wpOp P ops Q n K a W := by
    rintro b1 b2 b3 a W K ⟨u0, u1, u2, u3, rfl, h0, h1, h2, h3, rfl⟩ hK
    refine wpOp_at hL gL (wp_run (rL _ _ (hmo _) (hxo _) (by split; exact .inr rfl; exact .inl rfl)) ?_)
    show K _ _
    rw [dL, putL_set (i := 0) hnd rfl rfl]
    exact hK _ _ ⟨_, u1, u2, u3, rfl, fun _ => rfl, h1, h2, h3, rfl⟩
  have I1 : ∀ {b2 b3 : Bool} {a : Act} {W : World} {K : Act → World → Prop}, IncrI a0 [sL, sA, sE, sX] (.int .i64 c) (.int .i64 c1) (.tuple #[v0, sv]) sv W0 W1 true false b2 b3 a W →
      (∀ a' W', IncrI a0 [sL, sA, sE, sX] (.int .i64 c) (.int .i64 c1) (.tuple #[v0, sv]) sv W0 W1 true true b2 b3 a' W' → K a' W') → wpOp P ops Q (n + 1) K a W := by
    rintro b2 b3 a W K ⟨u0, u1, u2, u3, rfl, h0, h1, h2, h3, rfl⟩ hK
    obtain rfl := h0 rfl
    refine wpOp_at hA gA (wp_run (rA _ _ (putL_at (j := 0) hnd hlt rfl rfl)) ?_)
    show K _ _
    rw [dA, putL_set (i := 1) hnd rfl rfl]
    exact hK _ _ ⟨_, _, u2, u3, rfl, fun _ => rfl, fun _ => rfl, h2, h3, rfl⟩
  have I2 : ∀ {b0 b1 : Bool} {a : Act} {W : World} {K : Act → World → Prop}, IncrI a0 [sL, sA, sE, sX] (.int .i64 c) (.int .i64 c1) (.tuple #[v0, sv]) sv W0 W1 b0 b1 false false a W →
      (∀ a' W', IncrI a0 [sL, sA, sE, sX] (.int .i64 c) (.int .i64 c1) (.tuple #[v0, sv]) sv W0 W1 b0 b1 true false a' W' → K a' W') → wpOp P ops Q (n + 2) K a W := by
    rintro b0 b1 a W K ⟨u0, u1, u2, u3, rfl, h0, h1, h2, h3, rfl⟩ hK
    refine wpOp_at hE gE (wp_run (rE _ (hmo _) (hxo _)) ?_)
    show K _ _
    rw [dE, putL_set (i := 2) hnd rfl rfl]
    exact hK _ _ ⟨u0, u1, _, u3, rfl, h0, h1, fun _ => rfl, h3, rfl⟩
  have I3 : ∀ {b0 b1 : Bool} {a : Act} {W : World} {K : Act → World → Prop}, IncrI a0 [sL, sA, sE, sX] (.int .i64 c) (.int .i64 c1) (.tuple #[v0, sv]) sv W0 W1 b0 b1 true false a W →
      (∀ a' W', IncrI a0 [sL, sA, sE, sX] (.int .i64 c) (.int .i64 c1) (.tuple #[v0, sv]) sv W0 W1 b0 b1 true true a' W' → K a' W') → wpOp P ops Q (n + 3) K a W := by
    rintro b0 b1 a W K ⟨u0, u1, u2, u3, rfl, h0, h1, h2, h3, rfl⟩ hK
    obtain rfl := h2 rfl
    refine wpOp_at hX gX (wp_run (rX _ _ (putL_at (j := 2) hnd hlt rfl rfl)) ?_)
    show K _ _
    rw [dX, putL_set (i := 3) hnd rfl rfl]
    exact hK _ _ ⟨u0, u1, _, _, rfl, h0, h1, fun _ => rfl, fun _ => rfl, rfl⟩
  have s4 : ∀ a W, IncrI a0 [sL, sA, sE, sX] (.int .i64 c) (.int .i64 c1) (.tuple #[v0, sv]) sv W0 W1 true true true true a W → wpAny P .any ops Q 1 (doneL n [true, true, true, true, false]) a W := by
    rintro a W ⟨u0, u1, u2, u3, rfl, h0, h1, h2, h3, rfl⟩
    obtain rfl := h0 rfl
    obtain rfl := h1 rfl
    obtain rfl := h2 rfl
    obtain rfl := h3 rfl
    refine ⟨(fun h => by rw [q22] at h; cases h), fun i hi => ?_⟩
    rw [q22, List.mem_singleton] at hi
    subst hi
    refine wpOp_at hS gS (wp_run (rS _ (hmo _) (putL_at (j := 3) hnd hlt rfl rfl) (putL_at (j := 1) hnd hlt rfl rfl)) ?_)
    show wpAny P .any ops Q 0 ((doneL n [true, true, true, true, false]).setIfInBounds (n + 4) true) _ _
    rw [hset]
    refine ⟨q3, ?_⟩
    rw [dS]
    exact hQ
  have s21 : ∀ a W, IncrI a0 [sL, sA, sE, sX] (.int .i64 c) (.int .i64 c1) (.tuple #[v0, sv]) sv W0 W1 true true true false a W → wpAny P .any ops Q 2 (doneL n [true, true, true, false, false]) a W := fun a W h => by
    refine ⟨(fun e => by rw [q21] at e; cases e), fun i hi => ?_⟩
    rw [q21, List.mem_singleton] at hi
    subst hi
    exact I3 h (fun a' W' h' => by rw [hset]; exact s4 a' W' h')
  have s12 : ∀ a W, IncrI a0 [sL, sA, sE, sX] (.int .i64 c) (.int .i64 c1) (.tuple #[v0, sv]) sv W0 W1 true false true true a W → wpAny P .any ops Q 2 (doneL n [true, false, true, true, false]) a W := fun a W h => by
    refine ⟨(fun e => by rw [q12] at e; cases e), fun i hi => ?_⟩
    rw [q12, List.mem_singleton] at hi
    subst hi
    exact I1 h (fun a' W' h' => by rw [hset]; exact s4 a' W' h')
  have s20 : ∀ a W, IncrI a0 [sL, sA, sE, sX] (.int .i64 c) (.int .i64 c1) (.tuple #[v0, sv]) sv W0 W1 true true false false a W → wpAny P .any ops Q 3 (doneL n [true, true, false, false, false]) a W := fun a W h => by
    refine ⟨(fun e => by rw [q20] at e; cases e), fun i hi => ?_⟩
    rw [q20, List.mem_singleton] at hi
    subst hi
    exact I2 h (fun a' W' h' => by rw [hset]; exact s21 a' W' h')
  have s11 : ∀ a W, IncrI a0 [sL, sA, sE, sX] (.int .i64 c) (.int .i64 c1) (.tuple #[v0, sv]) sv W0 W1 true false true false a W → wpAny P .any ops Q 3 (doneL n [true, false, true, false, false]) a W := fun a W h => by
    refine ⟨(fun e => by rw [q11] at e; cases e), fun i hi => ?_⟩
    rw [q11, List.mem_cons, List.mem_singleton] at hi
    rcases hi with rfl | rfl
    · exact I1 h (fun a' W' h' => by rw [hset]; exact s21 a' W' h')
    · exact I3 h (fun a' W' h' => by rw [hset]; exact s12 a' W' h')
  have s02 : ∀ a W, IncrI a0 [sL, sA, sE, sX] (.int .i64 c) (.int .i64 c1) (.tuple #[v0, sv]) sv W0 W1 false false true true a W → wpAny P .any ops Q 3 (doneL n [false, false, true, true, false]) a W := fun a W h => by
    refine ⟨(fun e => by rw [q02] at e; cases e), fun i hi => ?_⟩
    rw [q02, List.mem_singleton] at hi
    subst hi
    exact I0 h (fun a' W' h' => by rw [hset0]; exact s12 a' W' h')
  have s10 : ∀ a W, IncrI a0 [sL, sA, sE, sX] (.int .i64 c) (.int .i64 c1) (.tuple #[v0, sv]) sv W0 W1 true false false false a W → wpAny P .any ops Q 4 (doneL n [true, false, false, false, false]) a W := fun a W h => by
    refine ⟨(fun e => by rw [q10] at e; cases e), fun i hi => ?_⟩
    rw [q10, List.mem_cons, List.mem_singleton] at hi
    rcases hi with rfl | rfl
    · exact I1 h (fun a' W' h' => by rw [hset]; exact s20 a' W' h')
    · exact I2 h (fun a' W' h' => by rw [hset]; exact s11 a' W' h')
  have s01 : ∀ a W, IncrI a0 [sL, sA, sE, sX] (.int .i64 c) (.int .i64 c1) (.tuple #[v0, sv]) sv W0 W1 false false true false a W → wpAny P .any ops Q 4 (doneL n [false, false, true, false, false]) a W := fun a W h => by
    refine ⟨(fun e => by rw [q01] at e; cases e), fun i hi => ?_⟩
    rw [q01, List.mem_cons, List.mem_singleton] at hi
    rcases hi with rfl | rfl
    · exact I0 h (fun a' W' h' => by rw [hset0]; exact s11 a' W' h')
    · exact I3 h (fun a' W' h' => by rw [hset]; exact s02 a' W' h')
  obtain ⟨vs, hvl, hvs⟩ := putL_same hlt
  obtain ⟨u0, u1, u2, u3, rfl⟩ : ∃ u0 u1 u2 u3, vs = [u0, u1, u2, u3] := by
    match vs, hvl with
    | [u0, u1, u2, u3], _ => exact ⟨u0, u1, u2, u3, rfl⟩
  have h : IncrI a0 [sL, sA, sE, sX] (.int .i64 c) (.int .i64 c1) (.tuple #[v0, sv]) sv W0 W1 false false false false a0 W0 := ⟨u0, u1, u2, u3, hvs, (fun h => by cases h), (fun h => by cases h), (fun h => by cases h), (fun h => by cases h), rfl⟩
  refine ⟨(fun e => by rw [q00] at e; cases e), fun i hi => ?_⟩
  rw [q00, List.mem_cons, List.mem_singleton] at hi
  rcases hi with rfl | rfl
  · exact I0 h (fun a' W' h' => by rw [hset0]; exact s10 a' W' h')
  · exact I2 h (fun a' W' h' => by rw [hset]; exact s01 a' W' h')
end

section
variable {P : Program} {w : World} {t k e : TypeId} {b n : Nat} {D : DataW Unit} {key : Value} {kl : Lit} {c c1 : Int}

/-- What 'm[k]++' does to a map of one's own, step by step. -/
theorem incr_runs (K : WideMaps.KeyLaw P k) (ht : P.underlying t = some (.map k e)) (he : P.underlying e = some (.int .i64)) (hz : ∀ u : World, (zeroValue e).run P u = .ok (.int .i64 0) u) (hown : w.ownsMap P k (plainElem P e) b n D) (hD : IsMap D) (hn : n + 1 < maxLen)
    (hkey : keyOf P k key = some kl) (hat : D.atKey kl (.lit (.int .i64 0)) = .lit (.int .i64 c)) (hw1 : (Lit.int .i64 c1).wf = true) :
    ∃ v0 sv W1 W2, (Instr.lookup t (.map (some b)) key false).run P w = .ok (.int .i64 c) w ∧ (Instr.lookup t (.map (some b)) key false).run P W1 = .ok (.int .i64 c) W1 ∧
      (Instr.mapEntry t (.map (some b)) key).run P w = .ok (.tuple #[v0, sv]) W1 ∧ (Instr.entryStore t (.map (some b)) sv (.int .i64 c1)).run P W1 = .ok () W2 ∧
      W2.ownsMap P k (plainElem P e) b (n + 1) (D.put kl (.lit (.int .i64 c1))) ∧ w.grownBy W2 (some b) := by
  have K' := Keyed.of_law K
  obtain ⟨c', hl0, hat', hwc⟩ := hown.lookup_int K' ht he (hz w) hkey
  obtain rfl : c' = c := by
    rw [hat] at hat'
    simpa using hat'.symm
  have hown0 := hown
  obtain ⟨es, clock, hb, F, hs, hDe⟩ := hown
  obtain ⟨v0, st, es1, clock1, hE, hv0, hS⟩ := WideElems.entry_then_store K ht hz hb F hkey
  have hb1 := (heap_set (o' := .map es1 clock1) hb).1
  obtain ⟨es', clock', hS1, hU1⟩ := hS (setBlock w b (.map es1 clock1)) (.int .i64 c1) hb1
  obtain ⟨w2, hu2, ho2, hg2⟩ := hown0.update K' ht (by omega) hkey (plainElem_int (H := Unit) he hw1)
  rw [hU1] at hu2
  injection hu2 with _ hu2
  subst hu2
  have hset2 : setBlock (setBlock w b (.map es1 clock1)) b (.map es' clock') = setBlock w b (.map es' clock') := by simp [setBlock]
  rw [hset2] at hS1
  refine ⟨v0, goInt st, _, _, hl0, ?_, hE, hS1, ho2, hg2⟩
  rcases K.find w hkey es.toList F.keys with ⟨h1, h2⟩ | ⟨j, e0, h1, h2, h3⟩
  · have hE2 : (Instr.mapEntry t (.map (some b)) key).run P w = .ok (.tuple #[.int .i64 0, goInt clock]) (setBlock w b (.map (es.push ⟨key, .int .i64 0, clock⟩) (clock + 1))) := by
      simp [Instr.mapEntry, run_underlying ht, MapKept.run_getObj_map hb, K.check w false hkey, h1, hz, MapKept.run_setObj_map _ hb, Result.andThen, setBlock]
    have hU2 : (Instr.mapUpdate t (.map (some b)) key (.int .i64 0)).run P w = .ok () (setBlock w b (.map (es.push ⟨key, .int .i64 0, clock⟩) (clock + 1))) := by
      simp [Instr.mapUpdate, run_underlying ht, MapKept.run_getObj_map hb, K.check w false hkey, h1, MapKept.run_setObj_map _ hb, Result.andThen, setBlock]
    obtain ⟨w3, hu3, ho3, _⟩ := hown0.update K' ht (by omega) hkey (plainElem_int (H := Unit) (a := 0) he (by decide))
    rw [hU2] at hu3
    obtain ⟨_, hu3⟩ := Result.ok.inj hu3
    obtain ⟨_, hE2⟩ := Result.ok.inj (hE.symm.trans hE2)
    rw [hE2, hu3]
    obtain ⟨c2, hl2, hat2, _⟩ := ho3.lookup_int K' ht he (hz w3) hkey
    rw [atKey_put_same hD (K'.key hkey)] at hat2
    have hl3 : (Instr.lookup t (.map (some b)) key false).run P w = .ok (.int .i64 0) w := by
      simp [Instr.lookup, run_underlying ht, MapKept.run_getObj_map hb, K.check w es.isEmpty hkey, h1, hz, Result.andThen]
    obtain ⟨hl3, _⟩ := Result.ok.inj (hl0.symm.trans hl3)
    obtain rfl : c2 = c' := by
      have : (0 : Int) = c2 := by simpa using hat2
      have h4 : c' = 0 := by simpa using hl3
      omega
    exact hl2
  · have hE2 : (Instr.mapEntry t (.map (some b)) key).run P w = .ok (.tuple #[e0.val, goInt e0.born]) (setBlock w b (.map es clock)) := by
      have hj : es[j]? = some e0 := by simpa using h2
      have hsame : es.modify j (fun e => { e with key := key }) = es := by
        apply Array.ext'
        rw [Array.toList_modify, modify_eq_set _ _ _ _ h2]
        have : ({ e0 with key := key } : MapEntry) = e0 := by rw [← h3]
        rw [this]
        exact WideElems.set_self _ _ _ h2
      simp [Instr.mapEntry, run_underlying ht, MapKept.run_getObj_map hb, K.check w false hkey, h1, hj, h3, K.stays w hkey, hsame, MapKept.run_setObj_map _ hb, Result.andThen, setBlock]
    obtain ⟨_, hE2⟩ := Result.ok.inj (hE.symm.trans hE2)
    rw [hE2]
    have ho3 : (setBlock w b (.map es clock)).ownsMap P k (plainElem P e) b n D := ⟨es, clock, (heap_set (o' := .map es clock) hb).1, F, hs, hDe⟩
    obtain ⟨c2, hl2, hat2, _⟩ := ho3.lookup_int K' ht he (hz _) hkey
    obtain rfl : c2 = c' := by
      rw [hat] at hat2
      simpa using hat2.symm
    exact hl2
end
end Go.Proofs.Ytgjikoebneiamaa

namespace Go.Proofs.Ytgjikoebneiamaa
open Go.RowKit Go.Maps Go.ChangeMaps Go.MapKept

section
variable {F : Fence} {N : Nat} {P : Program} {ops : Array Oper} {Q : Exit → Act → World → Prop}

theorem wpOpIn_at {i : Nat} {o : Oper} {K : Act → World → Prop} {a : Act} {w w' : World} {n : Next} (hfn : ∀ f, F.fn f) (hnd : ∀ c, o.op ≠ .defer c) (ho : ops[i]? = some o) (hg : o.guard = none)
    (h : (execOp a.eval o).run P w = .ok n w') (hk : o.uponIn F N P a K Q (.ok n w')) : wpOpIn F N P ops Q i K a w := by
  unfold wpOpIn
  simp only [ho]
  rw [if_pos (by simp [Region.wanted, hg])]
  exact ⟨fun f _ => hfn f, by rw [Oper.semAt_eq _ _ _ hnd, h]; exact hk⟩

variable {ps : List Fact} {n : Nat} {ds : List Nat} {a0 : Act} {w : World}

theorem wpAnyIn_facts (m2 : Nat) (hn : ds.length = n) (hsz : n ≤ ops.size) (hwt : waitsB .any ops n = true) (hnd : ds.Nodup) (hlt : ∀ d ∈ ds, d < a0.tmps.size)
    (hstep : ∀ i a W d, i < n → ds[i]? = some d → Below w.heap.size w W → (∀ t, t ∉ ds → a.eval (.tmp t) = a0.eval (.tmp t)) →
      (∀ j e, (depsOf .any ops i).contains j = true → ds[j]? = some e → factAt ps j (a.eval (.tmp e)) W) →
      wpOpIn F N P ops Q i (fun a' W' => ∃ v, a' = a.put (some d) v ∧ Below W.heap.size W W' ∧ factAt ps i v W') a W)
    (hrest : ∀ listed a W, FactsI ops ps n ds a0 w listed a W → (∀ i, i < n → listed.getD i false = true) → wpAnyIn F N P .any ops Q m2 listed a W) :
    ∀ (m : Nat) (listed : Array Bool) (a : Act) (W : World), unl listed n = m → FactsI ops ps n ds a0 w listed a W → wpAnyIn F N P .any ops Q (m + m2) listed a W
  | 0, listed, a, W, hu, hI => by
    rw [Nat.zero_add]
    exact hrest listed a W hI (unl_zero hu)
  | m + 1, listed, a, W, hu, hI => by
    simp only [waitsB, Bool.and_eq_true, List.all_eq_true, decide_eq_true_eq, List.mem_range, List.mem_range'_1] at hwt
    rw [Nat.succ_add]
    refine ⟨fun h0 => ?_, fun i hi => ?_⟩
    · obtain ⟨i, h1, h2, h3⟩ := unl_some (listed := listed) (k := n) (by omega)
      have hio : i < ops.size := by omega
      have : i ∈ Region.ready .any ops listed := mem_ready.2 ⟨by
        have hil : i < listed.size := by rw [hI.sz]; exact hio
        simp only [Array.getD, hil, dif_pos] at h2 ⊢
        exact h2, ops[i], Array.getElem?_eq_getElem hio, fun e he hb => h3 _ (hwt.1 i h1 _ ((mem_depsOf (Array.getElem?_eq_getElem hio)).2 ⟨e, he, hb, rfl⟩))⟩
      rw [h0] at this
      cases this
    · obtain ⟨hun, o, ho, hdep⟩ := mem_ready.1 hi
      have hio : i < ops.size := (Array.getElem?_eq_some_iff.1 ho).1
      have hil : i < listed.size := by rw [hI.sz]; exact hio
      have hun' : listed.getD i false = false := by
        simp only [Array.getD, hil, dif_pos] at hun ⊢
        exact hun
      have hdep' : ∀ j ∈ depsOf .any ops i, listed.getD j false = true := fun j hj => by
        obtain ⟨e, h1, h2, rfl⟩ := (mem_depsOf ho).1 hj
        exact hdep e h1 h2
      have hin : i < n := by
        refine Nat.lt_of_not_le fun hge => ?_
        have hall : ∀ k, k < n → listed.getD k false = true := fun k hk => clo_listed (md := .any) (ops := ops) hI.down _ _ hdep' k (by simpa using hwt.2 i ⟨hge, by omega⟩ k hk)
        have hz : ∀ k, k ≤ n → unl listed k = 0 := fun k => by
          induction k with
          | zero => intro _; rfl
          | succ k ih => intro hk; simp only [unl]; rw [ih (by omega), hall k (by omega)]; rfl
        rw [hz n (Nat.le_refl _)] at hu
        cases hu
      obtain ⟨vs, hvl, rfl, hval⟩ := hI.act
      obtain ⟨d, hd⟩ : ∃ d, ds[i]? = some d := ⟨ds[i], by simp⟩
      refine wpOpIn_mono (fun a' W' h => wpAnyIn_facts m2 hn hsz (by
        simp only [waitsB, Bool.and_eq_true, List.all_eq_true, decide_eq_true_eq, List.mem_range, List.mem_range'_1]; exact hwt) hnd hlt hstep hrest m _ a' W' ?_ ?_) (hstep i _ W d hin hd hI.bl (fun t ht => putL_off ht) (fun j e hj hje => ?_))
      · have := unl_lt hil hun' hin
        omega
      · obtain ⟨v, rfl, hb, hp⟩ := h
        refine ⟨hI.bl.trans (hb.mono hI.bl.size), by simp [hI.sz], fun k hk => ?_, fun k hk j hj => ?_, vs.set i v, by simp [hvl], putL_set hnd (by rw [hvl, hn]) hd, fun j hj hlj => ?_⟩
        · rw [set_getD hil] at hk
          split at hk
          · omega
          · exact hI.lo k hk
        · rw [set_getD hil] at hk ⊢
          split
          · rfl
          · split at hk
            · rename_i e; subst e; exact hdep' j hj
            · exact hI.down k hk j hj
        · by_cases e : i = j
          · subst e
            exact ⟨v, by rw [List.getElem?_set]; simp; omega, hp⟩
          · rw [set_getD hil, if_neg e] at hlj
            obtain ⟨x, h1, h2⟩ := hval j hj hlj
            exact ⟨x, by rw [List.getElem?_set, if_neg e]; exact h1, factAt_st ps h2 hb⟩
      · have hjm : j ∈ depsOf .any ops i := by simpa using hj
        have hjl := hdep' j hjm
        obtain ⟨x, h1, h2⟩ := hval j (hI.lo j hjl) hjl
        rw [putL_at hnd hlt hje h1]
        exact h2

/-- A region's first n operations by facts; the rest in whatever order they come. -/
theorem wpIn_region_factsA {id : Nat} {a0 : Act} {w : World} (l : List Oper) (n : Nat) (ds : List Nat) (ps : List Fact) (hm : P.follows .mixedOrders = true)
    (hwt : waitsB .any l.toArray n = true) (hn : ds.length = n) (hle : n ≤ l.length) (hnd : ds.Nodup) (hlt : ∀ d ∈ ds, d < a0.tmps.size)
    (hstep : ∀ i a W d, i < n → ds[i]? = some d → Below w.heap.size w W → (∀ t, t ∉ ds → a.eval (.tmp t) = a0.eval (.tmp t)) →
      (∀ j e, (depsOf .any l.toArray i).contains j = true → ds[j]? = some e → factAt ps j (a.eval (.tmp e)) W) →
      wpOpIn F N P l.toArray Q i (fun a' W' => ∃ v, a' = a.put (some d) v ∧ Below W.heap.size W W' ∧ factAt ps i v W') a W)
    (hrest : ∀ vs W, vs.length = n → Below w.heap.size w W → (∀ i, i < n → ∃ v, vs[i]? = some v ∧ factAt ps i v W) → wpAnyIn F N P .any l.toArray Q (l.length - n) (Array.replicate n true ++ Array.replicate (l.length - n) false) (putL a0 ds vs) W) :
    (Code.region id l.toArray true).wpIn F N P Q a0 w := by
  refine wpIn_region_any hm ?_
  have hb0 : Below w.heap.size w { w with drawn := w.drawn + 1 } := ⟨rfl, rfl, rfl, Nat.le_refl _, fun _ _ => rfl⟩
  have hI0 : FactsI l.toArray ps n ds a0 w (Array.replicate l.length false) a0 { w with drawn := w.drawn + 1 } := by
    obtain ⟨vs, h1, h2⟩ := putL_same hlt
    have hf : ∀ i, (Array.replicate l.length false).getD i false = false := fun i => by simp [Array.getD]
    have hno : ∀ i, (Array.replicate l.length false).getD i false = true → False := fun i h => by rw [hf] at h; cases h
    exact ⟨hb0, by simp, fun i h => (hno i h).elim, fun i h => (hno i h).elim, vs, by rw [h1, hn], h2, fun i _ h => (hno i h).elim⟩
  have := wpAnyIn_facts (F := F) (N := N) (P := P) (ops := l.toArray) (Q := Q) (ps := ps) (n := n) (ds := ds) (a0 := a0) (w := w) (l.length - n) hn (by simpa using hle) hwt hnd hlt hstep
    (fun listed a W hI hall => by
      obtain ⟨vs, h1, rfl, h2⟩ := hI.act
      have hL : listed = Array.replicate n true ++ Array.replicate (l.length - n) false := by
        apply Array.ext_getElem?
        intro i
        have hsz := hI.sz
        simp only [List.size_toArray] at hsz
        by_cases hi : i < n
        · have := hall i hi
          rw [Array.getElem?_append_left (by simpa using hi)]
          have hil : i < listed.size := by omega
          simp only [Array.getD, hil, dif_pos] at this
          rw [Array.getElem?_eq_getElem hil, Array.getElem?_replicate, if_pos hi]
          exact congrArg some this
        · rw [Array.getElem?_append_right (by simp; omega)]
          by_cases hil : i < listed.size
          · have : ¬ listed.getD i false = true := fun h => hi (hI.lo i h)
            simp only [Array.getD, hil, dif_pos, Bool.not_eq_true] at this
            rw [Array.getElem?_eq_getElem hil, Array.getElem?_replicate, if_pos (by simp; omega)]
            exact congrArg some this
          · rw [Array.getElem?_eq_none (by omega), Array.getElem?_eq_none (by simp; omega)]
      subst hL
      exact hrest vs W h1 hI.bl (fun i hi => h2 i hi (hall i hi)))
    n (Array.replicate l.length false) a0 { w with drawn := w.drawn + 1 } (unl_none _ _) hI0
  rw [show n + (l.length - n) = l.toArray.size by simp; omega] at this
  simpa using this

theorem fact_valueIn {i d : Nat} {o : Oper} {a : Act} {W W' : World} {v : Value} (hfn : ∀ f, F.fn f) (ho : ops[i]? = some o) (hnd : ∀ c, o.op ≠ .defer c) (hg : o.guard = none) (hd : o.dst = some d) (hrun : (execOp a.eval o).run P W = .ok (.value v) W') (hb : Below W.heap.size W W') (hp : factAt ps i v W') :
    wpOpIn F N P ops Q i (fun a' W' => ∃ v, a' = a.put (some d) v ∧ Below W.heap.size W W' ∧ factAt ps i v W') a W := by
  refine wpOpIn_at hfn hnd ho hg hrun ?_
  show ∃ u, a.put o.dst v = _ ∧ _
  rw [hd]
  exact ⟨v, rfl, hb, hp⟩
end

section
variable {F : Fence} {N : Nat} {P : Program} {ops : Array Oper} {Q : Exit → Act → World → Prop}

theorem wpAnyIn_incr {n sL sA sE sX : Nat} {mo xo : Operand} {t : TypeId} {mv key sv v0 : Value} {c c1 : Int} {a0 : Act} {W0 W1 W2 : World} {oL oA oE oX oS : Oper} (hfn : ∀ f, F.fn f) (hB : incrB ops n = true)
    (hL : ops[n]? = some oL) (hA : ops[n + 1]? = some oA) (hE : ops[n + 2]? = some oE) (hX : ops[n + 3]? = some oX) (hS : ops[n + 4]? = some oS)
    (nhL : ∀ c, oL.op ≠ .defer c) (nhA : ∀ c, oA.op ≠ .defer c) (nhE : ∀ c, oE.op ≠ .defer c) (nhX : ∀ c, oX.op ≠ .defer c) (nhS : ∀ c, oS.op ≠ .defer c) (gL : oL.guard = none) (gA : oA.guard = none) (gE : oE.guard = none) (gX : oX.guard = none) (gS : oS.guard = none)
    (dL : oL.dst = some sL) (dA : oA.dst = some sA) (dE : oE.dst = some sE) (dX : oX.dst = some sX) (dS : oS.dst = none)
    (hnd : [sL, sA, sE, sX].Nodup) (hlt : ∀ d ∈ [sL, sA, sE, sX], d < a0.tmps.size)
    (rL : ∀ (a : Act) (W : World), a.eval mo = mv → a.eval xo = key → (W = W0 ∨ W = W1) → (execOp a.eval oL).run P W = .ok (.value (.int .i64 c)) W)
    (rA : ∀ (a : Act) (W : World), a.eval (.tmp sL) = .int .i64 c → (execOp a.eval oA).run P W = .ok (.value (.int .i64 c1)) W)
    (rE : ∀ (a : Act), a.eval mo = mv → a.eval xo = key → (execOp a.eval oE).run P W0 = .ok (.value (.tuple #[v0, sv])) W1)
    (rX : ∀ (a : Act) (W : World), a.eval (.tmp sE) = .tuple #[v0, sv] → (execOp a.eval oX).run P W = .ok (.value sv) W)
    (rS : ∀ (a : Act), a.eval mo = mv → a.eval (.tmp sX) = sv → a.eval (.tmp sA) = .int .i64 c1 → (execOp a.eval oS).run P W1 = .ok .skip W2)
    (hmo : ∀ vs, (putL a0 [sL, sA, sE, sX] vs).eval mo = mv) (hxo : ∀ vs, (putL a0 [sL, sA, sE, sX] vs).eval xo = key)
    (hQ : Q .normal (putL a0 [sL, sA, sE, sX] [.int .i64 c, .int .i64 c1, .tuple #[v0, sv], sv]) W2) :
    wpAnyIn F N P .any ops Q 5 (doneL n [false, false, false, false, false]) a0 W0 := by
  simp only [incrB, Bool.and_eq_true, decide_eq_true_eq] at hB
  obtain ⟨q00, q10, q20, q01, q11, q21, q02, q12, q22, q3⟩ := hB
  have hset := doneL_set n
  have hset0 : ∀ bs : List Bool, (doneL n bs).setIfInBounds n true = doneL n (bs.set 0 true) := fun bs => doneL_set n 0 bs
  have I0 : ∀ {b1 b2 b3 : Bool} {a : Act} {W : World} {K : Act → World → Prop}, IncrI a0 [sL, sA, sE, sX] (.int .i64 c) (.int .i64 c1) (.tuple #[v0, sv]) sv W0 W1 false b1 b2 b3 a W →
      (∀ a' W', IncrI a0 [sL, sA, sE, sX] (.int .i64 c) (.int .i64 c1) (.tuple #[v0, sv]) sv W0 W1 true b1 b2 b3 a' W' → K a' W') → wpOpIn F N P ops Q n K a W := by
    rintro b1 b2 b3 a W K ⟨u0, u1, u2, u3, rfl, h0, h1, h2, h3, rfl⟩ hK
    refine wpOpIn_at hfn nhL hL gL (rL _ _ (hmo _) (hxo _) (by split; exact .inr rfl; exact .inl rfl)) ?_
    show K _ _
    rw [dL, putL_set (i := 0) hnd rfl rfl]
    exact hK _ _ ⟨_, u1, u2, u3, rfl, fun _ => rfl, h1, h2, h3, rfl⟩
  have I1 : ∀ {b2 b3 : Bool} {a : Act} {W : World} {K : Act → World → Prop}, IncrI a0 [sL, sA, sE, sX] (.int .i64 c) (.int .i64 c1) (.tuple #[v0, sv]) sv W0 W1 true false b2 b3 a W →
      (∀ a' W', IncrI a0 [sL, sA, sE, sX] (.int .i64 c) (.int .i64 c1) (.tuple #[v0, sv]) sv W0 W1 true true b2 b3 a' W' → K a' W') → wpOpIn F N P ops Q (n + 1) K a W := by
    rintro b2 b3 a W K ⟨u0, u1, u2, u3, rfl, h0, h1, h2, h3, rfl⟩ hK
    obtain rfl := h0 rfl
    refine wpOpIn_at hfn nhA hA gA (rA _ _ (putL_at (j := 0) hnd hlt rfl rfl)) ?_
    show K _ _
    rw [dA, putL_set (i := 1) hnd rfl rfl]
    exact hK _ _ ⟨_, _, u2, u3, rfl, fun _ => rfl, fun _ => rfl, h2, h3, rfl⟩
  have I2 : ∀ {b0 b1 : Bool} {a : Act} {W : World} {K : Act → World → Prop}, IncrI a0 [sL, sA, sE, sX] (.int .i64 c) (.int .i64 c1) (.tuple #[v0, sv]) sv W0 W1 b0 b1 false false a W →
      (∀ a' W', IncrI a0 [sL, sA, sE, sX] (.int .i64 c) (.int .i64 c1) (.tuple #[v0, sv]) sv W0 W1 b0 b1 true false a' W' → K a' W') → wpOpIn F N P ops Q (n + 2) K a W := by
    rintro b0 b1 a W K ⟨u0, u1, u2, u3, rfl, h0, h1, h2, h3, rfl⟩ hK
    refine wpOpIn_at hfn nhE hE gE (rE _ (hmo _) (hxo _)) ?_
    show K _ _
    rw [dE, putL_set (i := 2) hnd rfl rfl]
    exact hK _ _ ⟨u0, u1, _, u3, rfl, h0, h1, fun _ => rfl, h3, rfl⟩
  have I3 : ∀ {b0 b1 : Bool} {a : Act} {W : World} {K : Act → World → Prop}, IncrI a0 [sL, sA, sE, sX] (.int .i64 c) (.int .i64 c1) (.tuple #[v0, sv]) sv W0 W1 b0 b1 true false a W →
      (∀ a' W', IncrI a0 [sL, sA, sE, sX] (.int .i64 c) (.int .i64 c1) (.tuple #[v0, sv]) sv W0 W1 b0 b1 true true a' W' → K a' W') → wpOpIn F N P ops Q (n + 3) K a W := by
    rintro b0 b1 a W K ⟨u0, u1, u2, u3, rfl, h0, h1, h2, h3, rfl⟩ hK
    obtain rfl := h2 rfl
    refine wpOpIn_at hfn nhX hX gX (rX _ _ (putL_at (j := 2) hnd hlt rfl rfl)) ?_
    show K _ _
    rw [dX, putL_set (i := 3) hnd rfl rfl]
    exact hK _ _ ⟨u0, u1, _, _, rfl, h0, h1, fun _ => rfl, fun _ => rfl, rfl⟩
  have s4 : ∀ a W, IncrI a0 [sL, sA, sE, sX] (.int .i64 c) (.int .i64 c1) (.tuple #[v0, sv]) sv W0 W1 true true true true a W → wpAnyIn F N P .any ops Q 1 (doneL n [true, true, true, true, false]) a W := by
    rintro a W ⟨u0, u1, u2, u3, rfl, h0, h1, h2, h3, rfl⟩
    obtain rfl := h0 rfl
    obtain rfl := h1 rfl
    obtain rfl := h2 rfl
    obtain rfl := h3 rfl
    refine ⟨(fun h => by rw [q22] at h; cases h), fun i hi => ?_⟩
    rw [q22, List.mem_singleton] at hi
    subst hi
    refine wpOpIn_at hfn nhS hS gS (rS _ (hmo _) (putL_at (j := 3) hnd hlt rfl rfl) (putL_at (j := 1) hnd hlt rfl rfl)) ?_
    show wpAnyIn F N P .any ops Q 0 ((doneL n [true, true, true, true, false]).setIfInBounds (n + 4) true) _ _
    rw [hset]
    refine ⟨q3, ?_⟩
    rw [dS]
    exact hQ
  have s21 : ∀ a W, IncrI a0 [sL, sA, sE, sX] (.int .i64 c) (.int .i64 c1) (.tuple #[v0, sv]) sv W0 W1 true true true false a W → wpAnyIn F N P .any ops Q 2 (doneL n [true, true, true, false, false]) a W := fun a W h => by
    refine ⟨(fun e => by rw [q21] at e; cases e), fun i hi => ?_⟩
    rw [q21, List.mem_singleton] at hi
    subst hi
    exact I3 h (fun a' W' h' => by rw [hset]; exact s4 a' W' h')
  have s12 : ∀ a W, IncrI a0 [sL, sA, sE, sX] (.int .i64 c) (.int .i64 c1) (.tuple #[v0, sv]) sv W0 W1 true false true true a W → wpAnyIn F N P .any ops Q 2 (doneL n [true, false, true, true, false]) a W := fun a W h => by
    refine ⟨(fun e => by rw [q12] at e; cases e), fun i hi => ?_⟩
    rw [q12, List.mem_singleton] at hi
    subst hi
    exact I1 h (fun a' W' h' => by rw [hset]; exact s4 a' W' h')
  have s20 : ∀ a W, IncrI a0 [sL, sA, sE, sX] (.int .i64 c) (.int .i64 c1) (.tuple #[v0, sv]) sv W0 W1 true true false false a W → wpAnyIn F N P .any ops Q 3 (doneL n [true, true, false, false, false]) a W := fun a W h => by
    refine ⟨(fun e => by rw [q20] at e; cases e), fun i hi => ?_⟩
    rw [q20, List.mem_singleton] at hi
    subst hi
    exact I2 h (fun a' W' h' => by rw [hset]; exact s21 a' W' h')
  have s11 : ∀ a W, IncrI a0 [sL, sA, sE, sX] (.int .i64 c) (.int .i64 c1) (.tuple #[v0, sv]) sv W0 W1 true false true false a W → wpAnyIn F N P .any ops Q 3 (doneL n [true, false, true, false, false]) a W := fun a W h => by
    refine ⟨(fun e => by rw [q11] at e; cases e), fun i hi => ?_⟩
    rw [q11, List.mem_cons, List.mem_singleton] at hi
    rcases hi with rfl | rfl
    · exact I1 h (fun a' W' h' => by rw [hset]; exact s21 a' W' h')
    · exact I3 h (fun a' W' h' => by rw [hset]; exact s12 a' W' h')
  have s02 : ∀ a W, IncrI a0 [sL, sA, sE, sX] (.int .i64 c) (.int .i64 c1) (.tuple #[v0, sv]) sv W0 W1 false false true true a W → wpAnyIn F N P .any ops Q 3 (doneL n [false, false, true, true, false]) a W := fun a W h => by
    refine ⟨(fun e => by rw [q02] at e; cases e), fun i hi => ?_⟩
    rw [q02, List.mem_singleton] at hi
    subst hi
    exact I0 h (fun a' W' h' => by rw [hset0]; exact s12 a' W' h')
  have s10 : ∀ a W, IncrI a0 [sL, sA, sE, sX] (.int .i64 c) (.int .i64 c1) (.tuple #[v0, sv]) sv W0 W1 true false false false a W → wpAnyIn F N P .any ops Q 4 (doneL n [true, false, false, false, false]) a W := fun a W h => by
    refine ⟨(fun e => by rw [q10] at e; cases e), fun i hi => ?_⟩
    rw [q10, List.mem_cons, List.mem_singleton] at hi
    rcases hi with rfl | rfl
    · exact I1 h (fun a' W' h' => by rw [hset]; exact s20 a' W' h')
    · exact I2 h (fun a' W' h' => by rw [hset]; exact s11 a' W' h')
  have s01 : ∀ a W, IncrI a0 [sL, sA, sE, sX] (.int .i64 c) (.int .i64 c1) (.tuple #[v0, sv]) sv W0 W1 false false true false a W → wpAnyIn F N P .any ops Q 4 (doneL n [false, false, true, false, false]) a W := fun a W h => by
    refine ⟨(fun e => by rw [q01] at e; cases e), fun i hi => ?_⟩
    rw [q01, List.mem_cons, List.mem_singleton] at hi
    rcases hi with rfl | rfl
    · exact I0 h (fun a' W' h' => by rw [hset0]; exact s11 a' W' h')
    · exact I3 h (fun a' W' h' => by rw [hset]; exact s02 a' W' h')
  obtain ⟨vs, hvl, hvs⟩ := putL_same hlt
  obtain ⟨u0, u1, u2, u3, rfl⟩ : ∃ u0 u1 u2 u3, vs = [u0, u1, u2, u3] := by
    match vs, hvl with
    | [u0, u1, u2, u3], _ => exact ⟨u0, u1, u2, u3, rfl⟩
  have h : IncrI a0 [sL, sA, sE, sX] (.int .i64 c) (.int .i64 c1) (.tuple #[v0, sv]) sv W0 W1 false false false false a0 W0 := ⟨u0, u1, u2, u3, hvs, (fun h => by cases h), (fun h => by cases h), (fun h => by cases h), (fun h => by cases h), rfl⟩
  refine ⟨(fun e => by rw [q00] at e; cases e), fun i hi => ?_⟩
  rw [q00, List.mem_cons, List.mem_singleton] at hi
  rcases hi with rfl | rfl
  · exact I0 h (fun a' W' h' => by rw [hset0]; exact s10 a' W' h')
  · exact I2 h (fun a' W' h' => by rw [hset]; exact s01 a' W' h')
end
end Go.Proofs.Ytgjikoebneiamaa
