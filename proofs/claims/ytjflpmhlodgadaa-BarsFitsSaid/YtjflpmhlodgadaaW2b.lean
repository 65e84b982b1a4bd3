/-
  Walks: room, and the bars that are used.
-/
import Derived.Test.YtjflpmhlodgadaaW2
namespace Go.Proofs.Ytjflpmhlodgadaa
open Go.RowKit

def roomAt (S : Store) (L : List Int) (long : Int) (b : Nat) : Bool := decide (long + (if inB L b = true then S.kerf else 0) ≤ restS S L b)
def roomB (S : Store) (L : List Int) (long : Int) : Bool := !allTo (fun b => !roomAt S L long b) S.bars.length

theorem roomAt_of {S : Store} {L : List Int} {long : Int} {b : Nat} {r : Bool} (h : inB L b = r) : roomAt S L long b = decide (long + (if r = true then S.kerf else 0) ≤ restS S L b) := by rw [roomAt, h]
theorem roomB_yes {S : Store} {L : List Int} {long : Int} {b : Nat} (hb : b < S.bars.length) (h : roomAt S L long b = true) : roomB S L long = true := by
  rw [roomB, allTo_false hb (by simp [h])]; rfl

theorem rest_le {S : Store} (hV : Valid S) (L : List Int) (b : Nat) (hb : b < S.bars.length) (hl : L.length ≤ S.pieces.length) : -20000 ≤ restS S L b ∧ restS S L b ≤ 999 := by
  have h1 := hV.blong b hb
  have h2 := sumTo_le hV L b L.length hl
  have h3 := countTo_le L b L.length
  have h4 := hV.kerf
  have h5 := hV.np
  have h6 : 0 ≤ max (countTo L b L.length - 1) 0 := by omega
  have h7 : max (countTo L b L.length - 1) 0 ≤ 8 := by omega
  have h8 := Int.mul_nonneg h6 h4.1
  have h9 : max (countTo L b L.length - 1) 0 * S.kerf ≤ 8 * 20 := Int.mul_le_mul h7 h4.2 h4.1 (by omega)
  simp only [restS, Int.toNat_natCast]
  omega

set_option maxHeartbeats 1000000 in
theorem hasRoom_any (v lv : Value) (S : Store) (L : List Int) (long : Int) (w : World) {B : Nat} (hV : Valid S) (hx : StoreAt B w v S) (hB : B ≤ w.heap.size) (hL : IntsAt B w lv L) (hO : L.length ≤ S.pieces.length) (hl0 : 1 ≤ long) (hl9 : long ≤ 999) :
    Calls Try.prog 69 #[v, lv, .int .i64 long] w fun e w' => e = .returned (.bool (roomB S L long)) ∧ Below w.heap.size w w' := by
  have hx' := hx
  have hL' := hL
  obtain ⟨a, cap, b1, off, a2, cap2, b2, off2, rfl, hm, hm2, HA, HC, HA2, HC2⟩ := hx.opened
  obtain ⟨a3, cap3, b3, off3, rfl, hm3, HA3, HC3, _⟩ := hL.opened
  obtain ⟨q3, q4⟩ := hV.kerf
  have HV := Lib.hid hV
  clear hx hL HA HC HA2 HC2 hV
  go_enter Try.func69, Try.ntmps69
  go_wp2
  go_loopw [12] (fun i wr => ∃ k : Nat, k ≤ S.bars.length ∧ i = .int .i64 k ∧ Hid (allTo (fun b => !roomAt S L long b) k = true) ∧ Below (w.heap.size + 1) (w.alloc _) wr) (fun i _ => S.bars.length - (intOf i).toNat)
  case atStart => exact ⟨0, Nat.zero_le _, rfl, rfl, Below.refl _ _⟩
  case round =>
    obtain ⟨k, hk, rfl, hall, hbl⟩ := hrel
    have hw := boxed hbl
    have hsz := boxed_size hbl
    obtain ⟨c0, c1, c2, c3⟩ := box4 hbl
    by_cases hlt : k < S.bars.length
    · obtain ⟨g1, g2⟩ := rest_le HV.out L k hlt hO
      cases hin : inB L k
      all_goals
        have hra := roomAt_of (S := S) (long := long) hin
        have HRA := Lib.hid hra
        have HIN := Lib.hid hin
        clear hra hin
      · by_cases hr : long ≤ restS S L k
        · go_wp2_with (first | (go_at_call 80; refine (contains_to HIN.out (hL'.below (hw.mono hB))).mono ?_; rintro e w' ⟨rfl, rfl⟩) | (go_at_call 59; go_must (refine (rest_any _ _ _ _ _ _ HV.out (hx'.below (hw.mono hB)) (by omega) (hL'.below (hw.mono hB)) hO (by omega) (by omega)).mono ?_); rintro e w' ⟨rfl, hb⟩))
          go_ret
          exact ⟨ret_bool (roomB_yes hlt (by rw [HRA.out]; simpa using hr)).symm, hw.trans (hb.mono (by omega))⟩
        · go_wp2_with (first | (go_at_call 80; refine (contains_to HIN.out (hL'.below (hw.mono hB))).mono ?_; rintro e w' ⟨rfl, rfl⟩) | (go_at_call 59; go_must (refine (rest_any _ _ _ _ _ _ HV.out (hx'.below (hw.mono hB)) (by omega) (hL'.below (hw.mono hB)) hO (by omega) (by omega)).mono ?_); rintro e w' ⟨rfl, hb⟩))
          exact ⟨⟨k + 1, by omega, by go_num, allTo_step hall (by rw [HRA.out]; simpa using hr), hbl.trans (hb.mono (by omega))⟩, by simp [intOf]; omega⟩
      · by_cases hr : long + S.kerf ≤ restS S L k
        · go_wp2_with (first | (go_at_call 80; refine (contains_to HIN.out (hL'.below (hw.mono hB))).mono ?_; rintro e w' ⟨rfl, rfl⟩) | (go_at_call 59; go_must (refine (rest_any _ _ _ _ _ _ HV.out (hx'.below (hw.mono hB)) (by omega) (hL'.below (hw.mono hB)) hO (by omega) (by omega)).mono ?_); rintro e w' ⟨rfl, hb⟩))
          go_ret
          exact ⟨ret_bool (roomB_yes hlt (by rw [HRA.out]; simpa using hr)).symm, hw.trans (hb.mono (by omega))⟩
        · go_wp2_with (first | (go_at_call 80; refine (contains_to HIN.out (hL'.below (hw.mono hB))).mono ?_; rintro e w' ⟨rfl, rfl⟩) | (go_at_call 59; go_must (refine (rest_any _ _ _ _ _ _ HV.out (hx'.below (hw.mono hB)) (by omega) (hL'.below (hw.mono hB)) hO (by omega) (by omega)).mono ?_); rintro e w' ⟨rfl, hb⟩))
          exact ⟨⟨k + 1, by omega, by go_num, allTo_step hall (by rw [HRA.out]; simpa using hr), hbl.trans (hb.mono (by omega))⟩, by simp [intOf]; omega⟩
    · obtain rfl : S.bars.length = k := by omega
      go_wp2
      go_ret
      exact ⟨ret_bool (by rw [roomB, hall.out]; rfl), hw⟩

/-- Block B is an array of n bools. -/
def BoolsAt (B : Nat) (f : Nat → Bool) (n : Nat) (t : TypeId) (W : World) : Prop :=
  ∃ cs : Array Value, W.heap[B]? = some (.cells cs t) ∧ cs.size = n ∧ ∀ j, j < n → cs[j]? = some (.bool (f j))
theorem BoolsAt.lt {B : Nat} {f : Nat → Bool} {n : Nat} {t : TypeId} {W : World} (h : BoolsAt B f n t W) : B < W.heap.size := by
  obtain ⟨cs, h, _⟩ := h
  exact (Array.getElem?_eq_some_iff.1 h).1
theorem BoolsAt.kept {B : Nat} {f : Nat → Bool} {n : Nat} {t : TypeId} {W W' : World} (h : BoolsAt B f n t W) (hk : W'.heap[B]? = W.heap[B]?) : BoolsAt B f n t W' := by
  obtain ⟨cs, h1, h2⟩ := h
  exact ⟨cs, hk.trans h1, h2⟩
theorem BoolsAt.cell {B : Nat} {f : Nat → Bool} {n : Nat} {t : TypeId} {W : World} (h : BoolsAt B f n t W) {j : Nat} (hj : j < n) : W.cell? ⟨B, j, none⟩ = some (.bool (f j)) := by
  obtain ⟨cs, h1, h2, h3⟩ := h
  simp [World.cell?, h1, h3 j hj]
theorem BoolsAt.frozen {B : Nat} {f : Nat → Bool} {n : Nat} {t : TypeId} {W : World} (h : BoolsAt B f n t W) (j : Nat) : W.frozen? ⟨B, j, none⟩ = false := by
  obtain ⟨cs, h1, _⟩ := h
  simp [World.frozen?, h1]
theorem BoolsAt.congr {B : Nat} {f g : Nat → Bool} {n : Nat} {t : TypeId} {W : World} (h : BoolsAt B f n t W) (hfg : ∀ j, j < n → f j = g j) : BoolsAt B g n t W := by
  obtain ⟨cs, h1, h2, h3⟩ := h
  exact ⟨cs, h1, h2, fun j hj => hfg j hj ▸ h3 j hj⟩
theorem BoolsAt.put {B : Nat} {f : Nat → Bool} {n : Nat} {t : TypeId} {W : World} (h : BoolsAt B f n t W) {j : Nat} (hj : j < n) (b : Bool) : BoolsAt B (fun i => if i = j then b else f i) n t (W.setCell ⟨B, j, none⟩ (.bool b)) := by
  obtain ⟨cs, h1, h2, h3⟩ := h
  refine ⟨cs.setIfInBounds j (.bool b), ?_, by simp [h2], fun i hi => ?_⟩
  · obtain ⟨hlt, hk⟩ := Array.getElem?_eq_some_iff.1 h1
    show (W.heap.modify B _)[B]? = _
    rw [Array.getElem?_eq_getElem (by rw [Array.size_modify]; exact hlt), Array.getElem_modify_self, hk]
    rfl
  · by_cases e : i = j
    · subst e; simp [h2, hj]
    · rw [Array.getElem?_setIfInBounds_ne (by omega)]
      show cs[i]? = some (.bool (if i = j then b else f i))
      rw [if_neg e]; exact h3 i hi

theorem take_nth {L : List Int} {k : Nat} (h : k < L.length) : L.take (k + 1) = L.take k ++ [nth L k] := by
  rw [List.take_succ_eq_append_getElem h, nth_lt h]
theorem inB_append {xs : List Int} {x y : Int} : inB (xs ++ [x]) y = (inB xs y || decide (y = x)) := by
  simp [inB]
def usedTo (L : List Int) : Nat → Int
  | 0 => 0
  | k + 1 => usedTo L k + if inB (L.take k) (nth L k) = true then 0 else 1
def usedS (L : List Int) : Int := usedTo L L.length
theorem usedTo_le (L : List Int) : ∀ k : Nat, 0 ≤ usedTo L k ∧ usedTo L k ≤ k
  | 0 => by simp [usedTo]
  | k + 1 => by have := usedTo_le L k; simp only [usedTo]; split <;> omega

set_option maxHeartbeats 1000000 in
theorem used_any (lv : Value) (L : List Int) (w : World) {B : Nat} (hB : B ≤ w.heap.size) (hL : IntsAt B w lv L) (hO : Hid (∀ i, i < L.length → 0 ≤ nth L i ∧ nth L i < 6)) :
    Calls Try.prog 62 #[lv] w fun e w' => e = .returned (.int .i64 (usedS L)) ∧ Below w.heap.size w w' := by
  obtain ⟨a3, cap3, b3, off3, rfl, hm3, HA3, HC3, _⟩ := hL.opened
  clear hL
  go_enter Try.func62, Try.ntmps62
  go_wp2
  go_loopw [4, 9] (fun c i wr => ∃ k : Nat, k ≤ L.length ∧ i = .int .i64 k ∧ c = .int .i64 (usedTo L k) ∧ Hid (BoolsAt w.heap.size (fun j => inB (L.take k) j) 6 87 wr) ∧ Below w.heap.size w wr) (fun _ i _ => L.length - (intOf i).toNat)
  case atStart =>
    exact ⟨0, Nat.zero_le _, rfl, rfl, ⟨_, heap_new w _, rfl, fun j hj => by
      have : j = 0 ∨ j = 1 ∨ j = 2 ∨ j = 3 ∨ j = 4 ∨ j = 5 := by omega
      rcases this with rfl | rfl | rfl | rfl | rfl | rfl <;> rfl⟩, (Below.refl _ w).alloc (Nat.le_refl _) _⟩
  case round =>
    obtain ⟨k, hk, rfl, rfl, hbs, hw⟩ := hrel
    obtain ⟨u1, u2⟩ := usedTo_le L k
    have hbl := hbs.out.lt
    by_cases hlt : k < L.length
    · obtain ⟨rfl, hb3⟩ := HA3.out (by omega)
      obtain ⟨o1, o2⟩ := hO.out k hlt
      obtain ⟨m, hm⟩ := Int.eq_ofNat_of_zero_le o1
      have d := (hw.cell (p := ⟨b3, off3 + k, none⟩) (Nat.lt_of_lt_of_le hb3 hB)).trans (HC3.out k hlt)
      rw [hm] at d o1 o2
      have hm6 : m < 6 := by omega
      have c := hbs.out.cell hm6
      have f := hbs.out.frozen m
      have HM := Lib.hid hm
      clear hm
      cases hin : inB (L.take k) m
      all_goals
        rw [hin] at c
        have HIN := Lib.hid hin
        clear hin
        go_wp2
      · exact ⟨⟨k + 1, by omega, by go_num, by simp [usedTo, HM.out, HIN.out], (hbs.out.put hm6 true).congr (fun j _ => by
          rw [take_nth hlt, HM.out, inB_append]
          by_cases e : j = m
          · subst e; simp
          · rw [if_neg e]; simp; intro h; omega), hw.setCell (p := ⟨w.heap.size, m, none⟩) (Nat.le_refl _) _⟩, by simp [intOf]; omega⟩
      · exact ⟨⟨k + 1, by omega, by go_num, by simp [usedTo, HM.out, HIN.out], hbs.out.congr (fun j _ => by
          rw [take_nth hlt, HM.out, inB_append]
          by_cases e : j = m
          · subst e; simp [HIN.out]
          · simp; intro h; omega), hw⟩, by simp [intOf]; omega⟩
    · obtain rfl : L.length = k := by omega
      go_wp2
      go_ret
      exact ⟨rfl, hw⟩
end Go.Proofs.Ytjflpmhlodgadaa
