/-
  Walks: numbers (the places at which an array of bools is true), and the library's Clone of a list of ints.
-/
import Derived.Test.YtjflpmhlodgadaaW2b
import Derived.Test.YtjflpmhlodgadaaSawB
import Derived.OwnWalk
import Derived.Lib.SliceRun
namespace Go.Proofs.Ytjflpmhlodgadaa
open Go.RowKit

def numsTo (f : Nat → Bool) : Nat → List Int
  | 0 => []
  | k + 1 => numsTo f k ++ (if f k = true then [(k : Int)] else [])
theorem numsTo_length (f : Nat → Bool) : ∀ k, (numsTo f k).length ≤ k
  | 0 => by simp [numsTo]
  | k + 1 => by have := numsTo_length f k; simp only [numsTo, List.length_append]; split <;> simp <;> omega
theorem mem_numsTo {f : Nat → Bool} {x : Int} : ∀ {k : Nat}, x ∈ numsTo f k ↔ ∃ j, j < k ∧ x = (j : Int) ∧ f j = true
  | 0 => by simp [numsTo]
  | k + 1 => by
    simp only [numsTo, List.mem_append, mem_numsTo]
    constructor
    · rintro (⟨j, hj, rfl, h⟩ | h)
      · exact ⟨j, by omega, rfl, h⟩
      · split at h
        · simp only [List.mem_singleton] at h; exact ⟨k, by omega, h, by assumption⟩
        · cases h
    · rintro ⟨j, hj, rfl, h⟩
      by_cases e : j = k
      · subst e; exact .inr (by rw [if_pos h]; simp)
      · exact .inl ⟨j, by omega, rfl, h⟩

theorem numsTo_no {f : Nat → Bool} {k : Nat} (h : f k = false) : numsTo f (k + 1) = numsTo f k := by simp [numsTo, h]
theorem numsTo_yes {f : Nat → Bool} {k : Nat} (h : f k = true) : numsTo f (k + 1) = numsTo f k ++ [(k : Int)] := by simp [numsTo, h]

/-- A list of ints in memory of the call's own. -/
def GaveInts (xs : List Int) (w : World) (e : Ending) (w' : World) : Prop := ∃ v, e = .returned v ∧ IntsAt w'.heap.size w' v xs ∧ Below w.heap.size w w'

theorem ints_of_own {w : World} {base : Nat} {v : Value} {xs : List Int} (h : w.ownsRow base 3 1 v xs.length (xs.map (Value.int .i64))) (hw : ∀ x ∈ xs, I64 x) : IntsAt w.heap.size w v xs := by
  obtain ⟨_, ⟨rfl, h0⟩ | ⟨g, cap, cur, rfl, _, hg, hn, hm, hs, ht⟩⟩ := h
  · exact ⟨none, 0, 0, 0, by rw [h0], by omega, by unfold maxLen; omega, fun h => by omega, fun i hi => by omega, hw⟩
  · refine ⟨_, cap, g, 0, rfl, hn, hm, fun _ => ⟨rfl, (Array.getElem?_eq_some_iff.1 hg).1⟩, fun i hi => ?_, hw⟩
    have h1 : cur.toList[i]? = some (.int .i64 (nth xs i)) := by
      have : (cur.toList.take (xs.length * 1))[i]? = some (.int .i64 (nth xs i)) := by rw [ht]; simp [hi, nth_lt hi]
      rwa [List.getElem?_take_of_lt (by omega)] at this
    simp only [Nat.zero_add, World.cell?, hg, Option.isSome_none, Bool.false_eq_true, if_false]
    rwa [Array.getElem?_toList] at h1

set_option maxHeartbeats 1000000 in
theorem numbers_any (b n cap : Nat) (f : Nat → Bool) (t : TypeId) (w : World) (hb : BoolsAt b f n t w) (hn : n ≤ 100) :
    Calls Try.prog 65 #[.slice (some ⟨b, 0, none⟩) n cap] w (GaveInts (numsTo f n) w) := by
  have HB := Lib.hid hb
  have hlt0 := hb.lt
  clear hb
  obtain ⟨i0, hi, hz0, hz1, hz2⟩ := info_parts Try_infoInt
  go_enter Try.func65, Try.ntmps65
  go_wp2
  go_loopw [3, 8] (fun v i wr => ∃ k : Nat, k ≤ n ∧ i = .int .i64 k ∧ Hid (wr.ownsRow w.heap.size 3 1 v (numsTo f k).length ((numsTo f k).map (Value.int .i64))) ∧ Below w.heap.size w wr) (fun _ i _ => n - (intOf i).toNat)
  case atStart => exact ⟨0, Nat.zero_le _, rfl, World.ownsRow_nil _ _ _ _, Below.refl _ _⟩
  case round =>
    obtain ⟨k, hk, rfl, hown, hw⟩ := hrel
    by_cases hlt : k < n
    · have d := (hw.cell (p := ⟨b, k, none⟩) hlt0).trans (HB.out.cell hlt)
      cases hf : f k
      all_goals
        rw [hf] at d
        have HF := Lib.hid hf
        clear hf
      · go_wp2
        exact ⟨⟨k + 1, by omega, by go_num, by have h := hown.out; rw [← numsTo_no HF.out] at h; exact h, hw⟩, by simp [intOf]; omega⟩
      · have hle := numsTo_length f k
        go_wp2_with (at_builtin; refine wpList_append_own _ rfl _ _ 26 rfl w.heap.size 3 i0 (.int .i64 0) 1 8 Try.underlying26 hi hz0 hz1 hz2 rfl (by decide) _ _ _ rfl (hown.out.alloc _) ⟨wr.heap.size, 0, none⟩ 1 1 [.int .i64 k] rfl rfl ?c1 ?c2 ?c3 ?c4 ?c5 ?_)
        case c1 => exact cell_one_new _ _ _
        case c2 => simp [Value.oneCell']
        case c3 => unfold maxLen; omega
        case c4 => omega
        case c5 => have := hw.size; simp; omega
        intro v' w1 hown' hgrow _
        have hw1 : Below w.heap.size w w1 := (hw.alloc hw.size _).grown hgrow (by have := hw.size; simp; omega) (fun j e => (hown.out.lt j e).1)
        have HO1 := Lib.hid (show w1.ownsRow w.heap.size 3 1 v' (numsTo f (k + 1)).length ((numsTo f (k + 1)).map (Value.int .i64)) from by
          rw [numsTo_yes HF.out, List.length_append, List.map_append]; exact hown')
        clear hown' hgrow
        go_wp2
        exact ⟨⟨k + 1, by omega, by go_num, HO1, hw1⟩, by simp [intOf]; omega⟩
    · obtain rfl : n = k := by omega
      go_wp2
      go_ret
      exact ⟨_, rfl, ints_of_own hown.out (fun x hx => by obtain ⟨j, hj, rfl, _⟩ := mem_numsTo.1 hx; exact I64_small (by omega) (by omega)), hw⟩

/-- A []int in blocks from lo on. -/
def IntsOver (lo : Nat) (w : World) (v : Value) (xs : List Int) : Prop :=
  ∃ a cap b off, v = .slice a xs.length cap ∧ xs.length ≤ cap ∧ cap ≤ maxLen ∧ (0 < xs.length → a = some ⟨b, off, none⟩ ∧ lo ≤ b ∧ b < w.heap.size) ∧
    (∀ i, i < xs.length → w.cell? ⟨b, off + i, none⟩ = some (.int .i64 (nth xs i))) ∧ ∀ x ∈ xs, I64 x
theorem IntsOver.at {lo : Nat} {w : World} {v : Value} {xs : List Int} (h : IntsOver lo w v xs) : IntsAt w.heap.size w v xs := by
  obtain ⟨a, cap, b, off, hv, hl, hm, ha, hc, hw⟩ := h
  exact ⟨a, cap, b, off, hv, hl, hm, fun h => ⟨(ha h).1, (ha h).2.2⟩, hc, hw⟩
theorem IntsOver.grown {lo : Nat} {w w' : World} {v : Value} {xs : List Int} {row : Option Nat} (h : IntsOver lo w v xs) (hg : w.grownBy w' row) (hr : ∀ r, row = some r → r < lo) : IntsOver lo w' v xs := by
  obtain ⟨a, cap, b, off, hv, hl, hm, ha, hc, hw⟩ := h
  exact ⟨a, cap, b, off, hv, hl, hm, fun h => ⟨(ha h).1, (ha h).2.1, Nat.lt_of_lt_of_le (ha h).2.2 hg.size⟩, fun i hi =>
    (World.cell?_of_block (hg.block b (ha (by omega)).2.2 (fun e => by have := hr b e.symm; have := (ha (by omega)).2.1; omega))).trans (hc i hi), hw⟩
theorem IntsOver.mono {lo lo' : Nat} {w : World} {v : Value} {xs : List Int} (h : IntsOver lo w v xs) (hl : lo' ≤ lo) : IntsOver lo' w v xs := by
  obtain ⟨a, cap, b, off, hv, hl, hm, ha, hc, hw⟩ := h
  exact ⟨a, cap, b, off, hv, hl, hm, fun h => ⟨(ha h).1, by have := (ha h).2.1; omega, (ha h).2.2⟩, hc, hw⟩
theorem IntsOver.below {lo : Nat} {w w' : World} {v : Value} {xs : List Int} (h : IntsOver lo w v xs) (hb : Below w.heap.size w w') : IntsOver lo w' v xs :=
  h.grown (row := none) ⟨hb.os, hb.tape, hb.output, hb.size, fun k hk _ => hb.block k hk⟩ (fun r e => by cases e)

theorem over_of_own {w : World} {base : Nat} {v : Value} {xs : List Int} (h : w.ownsRow base 3 1 v xs.length (xs.map (Value.int .i64))) (hw : ∀ x ∈ xs, I64 x) : IntsOver base w v xs := by
  obtain ⟨_, ⟨rfl, h0⟩ | ⟨g, cap, cur, rfl, hge, hg, hn, hm, hs, ht⟩⟩ := h
  · exact ⟨none, 0, 0, 0, by rw [h0], by omega, by unfold maxLen; omega, fun h => by omega, fun i hi => by omega, hw⟩
  · refine ⟨_, cap, g, 0, rfl, hn, hm, fun _ => ⟨rfl, hge, (Array.getElem?_eq_some_iff.1 hg).1⟩, fun i hi => ?_, hw⟩
    have h1 : cur.toList[i]? = some (.int .i64 (nth xs i)) := by
      have : (cur.toList.take (xs.length * 1))[i]? = some (.int .i64 (nth xs i)) := by rw [ht]; simp [hi, nth_lt hi]
      rwa [List.getElem?_take_of_lt (by omega)] at this
    simp only [Nat.zero_add, World.cell?, hg, Option.isSome_none, Bool.false_eq_true, if_false]
    rwa [Array.getElem?_toList] at h1

set_option maxHeartbeats 1000000 in
theorem clone_any (b n cap : Nat) (xs : List Int) (w : World) (hn : xs.length = n) (hc : Hid (∀ i, i < xs.length → w.cell? ⟨b, i, none⟩ = some (.int .i64 (nth xs i)))) (hlt0 : b < w.heap.size) (hl : n ≤ 100) (hw : Hid (∀ x ∈ xs, I64 x)) :
    Calls Try.prog 77 #[.slice (some ⟨b, 0, none⟩) n cap] w (fun e w' => ∃ rv, e = .returned rv ∧ ((∀ x ∈ xs, I64 x) → IntsOver w.heap.size w' rv xs) ∧ Below w.heap.size w w') := by
  obtain ⟨i0, hi, hz0, hz1, hz2⟩ := info_parts Try_infoInt
  have HN := Lib.hid hn
  clear hn
  have hxs : Hid (∀ j u, (xs.map (Value.int .i64))[j]? = some u → (w.alloc (.cells #[] 3)).cell? ((⟨b, 0, none⟩ : Addr).add j) = some u) := fun j u hu => by
    simp only [List.getElem?_map, Option.map_eq_some_iff] at hu
    obtain ⟨x, hx, rfl⟩ := hu
    have hj : j < xs.length := (List.getElem?_eq_some_iff.1 hx).1
    have he : x = nth xs j := by rw [nth_lt hj]; exact ((List.getElem?_eq_some_iff.1 hx).2).symm
    have ha : (⟨b, 0, none⟩ : Addr).add j = ⟨b, j, none⟩ := by rw [Addr.add_lit, Nat.zero_add]
    rw [ha, he]
    exact (Below.cell ((Below.refl _ w).alloc (Nat.le_refl _) _) (p := ⟨b, j, none⟩) hlt0).trans (hc.out j hj)
  have q22 : ∀ (w : World) (a : Option Addr) (n c n' c' : Nat), (binOp .eql 26 (.slice a n c) (.slice none n' c')).run Try.prog w = .ok (.bool a.isNone) w := fun w a n c n' c' => Lib.run_eql_slice_nil w _ _ a n c n' c' Try.underlying26
  go_enter Try.func77, Try.ntmps77
  go_wp2_with (at_builtin; refine wpList_append_own _ rfl _ _ 26 rfl w.heap.size 3 i0 (.int .i64 0) 1 8 Try.underlying26 hi hz0 hz1 hz2 rfl (by decide) (.slice (some ⟨w.heap.size, 0, none⟩) 0 0) 0 [] rfl (World.ownsRow_made w #[] 0 (Nat.le_refl _) (by unfold maxLen; omega) rfl) ⟨b, 0, none⟩ n cap (xs.map (Value.int .i64)) rfl ?c1 hxs.out ?c2 ?c3 ?c4 ?c5 ?_)
  case c1 => simp [HN.out]
  case c2 => intro u hu; simp only [List.mem_map] at hu; obtain ⟨x, _, rfl⟩ := hu; rfl
  case c3 => unfold maxLen; omega
  case c4 => omega
  case c5 => simp
  intro v' w1 hown' hgrow _
  have hw1 : Below w.heap.size w w1 := ((Below.refl _ w).alloc (Nat.le_refl _) _).grown hgrow (by simp) (fun j e => by cases e; exact Nat.le_refl _)
  have HO1 := Lib.hid (show w1.ownsRow w.heap.size 3 1 v' xs.length (xs.map (Value.int .i64)) from by rw [HN.out]; simpa using hown')
  clear hown' hgrow
  go_wp2
  go_ret
  exact ⟨_, rfl, fun h => over_of_own HO1.out h, hw1⟩
end Go.Proofs.Ytjflpmhlodgadaa
