/-
  Links, math: the first sight that contradicts, and the least number of sights that are not right.
  Links, math: a chain whose ends are all known has one past.
  Links, the law's own functions: parts of lists, lists that are not too long; what is so of answers.
-/
import Derived.Test.YtgjikoebneiamaaLFirst
import Derived.Test.YtgjikoebneiamaaLWho
import Derived.Test.YtgjikoebneiamaaLIn
import Derived.Test.YtgjikoebneiamaaLErr
import Derived.Test.YtgjikoebneiamaaLLaw1
namespace Go.Proofs.Ytgjikoebneiamaa

/-- The chain with its first k sights alone. -/
def cutS (C : Chain) (k : Nat) : Chain := ⟨C.deeds, C.sights.take k, C.wrong⟩
theorem cutS_len {C : Chain} {k : Nat} (h : k ≤ C.sights.length) : (cutS C k).sights.length = k := by simp [cutS]; omega
theorem cutS_nth {C : Chain} {k i : Nat} (h : i < k) : snth (cutS C k).sights i = snth C.sights i := by
  simp [cutS, snth, List.getD_eq_getElem?_getD, h]
theorem cutS_valid {C : Chain} {k : Nat} (hV : Valid C) (h : k ≤ C.sights.length) : Valid (cutS C k) :=
  ⟨hV.nd, by rw [cutS_len h]; have := hV.ns; omega, hV.wrong, hV.deed, fun j hj => by rw [cutS_len h] at hj; rw [cutS_nth hj]; exact hV.sight j (by omega)⟩
theorem cutS_wrongsTo {C : Chain} {x : List Int} {k : Nat} : ∀ {i : Nat}, i ≤ k → wrongsTo (cutS C k) x i = wrongsTo C x i
  | 0, _ => rfl
  | i + 1, h => by simp only [wrongsTo]; rw [cutS_wrongsTo (by omega), cutS_nth (by omega)]; rfl
theorem cutS_badTo {C : Chain} {x : List Int} {k : Nat} : ∀ {i : Nat}, i ≤ k → badTo (cutS C k) x i = badTo C x i
  | 0, _ => rfl
  | i + 1, h => by simp only [badTo]; rw [cutS_badTo (by omega), cutS_nth (by omega)]; rfl
theorem bad_iff {C : Chain} {x : List Int} : ∀ {k : Nat}, badTo C x k < 0 ↔ wrongsTo C x k = 0
  | 0 => by simp [badTo, wrongsTo]
  | k + 1 => by
    have h1 := badTo_bound C x k
    have h2 := wrongsTo_le C x k
    have ih := bad_iff (C := C) (x := x) (k := k)
    simp only [badTo, wrongsTo]
    by_cases h : 0 ≤ badTo C x k
    · rw [if_pos h]
      have : wrongsTo C x k ≠ 0 := fun e => by have := ih.2 e; omega
      split <;> omega
    · rw [if_neg h]
      have := ih.1 (by omega)
      split <;> omega
theorem pasts_some (ds : List Deed) : ∃ x, x ∈ pastsL ds := ⟨endsOf ds 0, List.mem_map.2 ⟨0, List.mem_range.2 (Nat.two_pow_pos _), rfl⟩⟩
theorem fewOf_spec (C : Chain) : ∀ (l : List (List Int)) (m : Int), (l.foldl (fun m e => min m (wrongs C e)) m ≤ m ∧ ∀ x ∈ l, l.foldl (fun m e => min m (wrongs C e)) m ≤ wrongs C x) ∧
    (l.foldl (fun m e => min m (wrongs C e)) m = m ∨ ∃ x ∈ l, l.foldl (fun m e => min m (wrongs C e)) m = wrongs C x)
  | [], m => by simp
  | y :: l, m => by
    obtain ⟨⟨h1, h2⟩, h3⟩ := fewOf_spec C l (min m (wrongs C y))
    simp only [List.foldl_cons, List.mem_cons]
    refine ⟨⟨by omega, fun x hx => ?_⟩, ?_⟩
    · rcases hx with rfl | hx
      · omega
      · exact h2 x hx
    · rcases h3 with h3 | ⟨x, hx, h3⟩
      · by_cases hm : m ≤ wrongs C y
        · left; omega
        · right; exact ⟨y, .inl rfl, by omega⟩
      · exact .inr ⟨x, .inr hx, h3⟩
theorem fewV_le {C : Chain} {x : List Int} (h : x ∈ pastsL C.deeds) : fewV C ≤ wrongs C x := (fewOf_spec C _ _).1.2 x h
theorem fewV_is (C : Chain) : ∃ x ∈ pastsL C.deeds, fewV C = wrongs C x := by
  rcases (fewOf_spec C (pastsL C.deeds) C.sights.length).2 with h | h
  · obtain ⟨x, hx⟩ := pasts_some C.deeds
    refine ⟨x, hx, ?_⟩
    have h1 := fewV_le hx
    have h2 := (wrongsTo_le C x C.sights.length).2
    have h3 : fewV C = C.sights.length := h
    have : wrongs C x = wrongsTo C x C.sights.length := rfl
    omega
  · exact h
theorem fewV_bound (C : Chain) : 0 ≤ fewV C ∧ fewV C ≤ C.sights.length := by
  obtain ⟨x, _, h⟩ := fewV_is C
  have := wrongsTo_le C x C.sights.length
  rw [h]
  exact this
theorem badMax_spec (C : Chain) : ∀ (l : List (List Int)) (m : Int), (m ≤ l.foldl (fun m x => max m (badV C x)) m ∧ ∀ x ∈ l, badV C x ≤ l.foldl (fun m x => max m (badV C x)) m) ∧
    (l.foldl (fun m x => max m (badV C x)) m = m ∨ ∃ x ∈ l, l.foldl (fun m x => max m (badV C x)) m = badV C x)
  | [], m => by simp
  | y :: l, m => by
    obtain ⟨⟨h1, h2⟩, h3⟩ := badMax_spec C l (max m (badV C y))
    simp only [List.foldl_cons, List.mem_cons]
    refine ⟨⟨by omega, fun x hx => ?_⟩, ?_⟩
    · rcases hx with rfl | hx
      · omega
      · exact h2 x hx
    · rcases h3 with h3 | ⟨x, hx, h3⟩
      · by_cases hm : badV C y ≤ m
        · left; omega
        · right; exact ⟨y, .inl rfl, by omega⟩
      · exact .inr ⟨x, .inr hx, h3⟩
theorem some_iff {C : Chain} : someGood C = true ↔ ∃ x ∈ pastsL C.deeds, badV C x < 0 := by simp [someGood]
/-- Where there is a contradiction: its sight, of all pasts, and of one that lasts so long. -/
theorem first_is {C : Chain} (h : someGood C = false) : ∃ k : Nat, k < C.sights.length ∧ firstV C = k ∧ firstE C = 0 ∧ (∀ x ∈ pastsL C.deeds, 0 ≤ badV C x ∧ badV C x ≤ k) ∧ ∃ x ∈ pastsL C.deeds, badV C x = k := by
  have hall : ∀ x ∈ pastsL C.deeds, 0 ≤ badV C x := fun x hx => by
    refine Int.not_lt.1 fun hlt => ?_
    rw [some_iff.2 ⟨x, hx, hlt⟩] at h
    cases h
  obtain ⟨⟨h1, h2⟩, h3⟩ := badMax_spec C (pastsL C.deeds) 0
  have hv : firstV C = badMax C (pastsL C.deeds) := by simp [firstV, h]
  have he : firstE C = 0 := by simp [firstE, h]
  have hx : ∃ x ∈ pastsL C.deeds, badV C x = badMax C (pastsL C.deeds) := by
    rcases h3 with h3 | ⟨x, hx, h3⟩
    · obtain ⟨x, hx⟩ := pasts_some C.deeds
      refine ⟨x, hx, ?_⟩
      have h4 := hall x hx
      have h5 := h2 x hx
      have : badMax C (pastsL C.deeds) = 0 := h3
      have : badV C x ≤ badMax C (pastsL C.deeds) := h5
      omega
    · exact ⟨x, hx, h3.symm⟩
  obtain ⟨x, hx, hxe⟩ := hx
  have hb := badTo_bound C x C.sights.length
  have hb0 := hall x hx
  obtain ⟨k, hk⟩ := Int.eq_ofNat_of_zero_le hb0
  have hbv : badV C x = badTo C x C.sights.length := rfl
  refine ⟨k, by omega, by rw [hv, ← hxe, hk], he, fun y hy => ⟨hall y hy, ?_⟩, x, hx, hk⟩
  have : badV C y ≤ badMax C (pastsL C.deeds) := h2 y hy
  omega
theorem few_pos {C : Chain} : someGood C = true ↔ fewV C = 0 := by
  rw [some_iff]
  constructor
  · rintro ⟨x, hx, h⟩
    have h1 := fewV_le hx
    have h2 := (bad_iff (C := C) (x := x) (k := C.sights.length)).1 h
    have h3 := (fewV_bound C).1
    have : wrongs C x = wrongsTo C x C.sights.length := rfl
    omega
  · intro h
    obtain ⟨x, hx, he⟩ := fewV_is C
    exact ⟨x, hx, bad_iff.2 (by rw [h] at he; exact he.symm)⟩
theorem bad_before {C : Chain} {x : List Int} {n j : Nat} (h : badTo C x n = j) (hj : j ≤ n) : badTo C x j < 0 := by
  refine Int.not_le.1 fun h0 => ?_
  have := badTo_stay h0 hj
  have := (badTo_bound C x j).2
  omega
theorem bad_at {C : Chain} {x : List Int} {n j : Nat} (h : badTo C x n = j) (hj : j < n) : badTo C x (j + 1) = j := by
  by_cases h0 : 0 ≤ badTo C x (j + 1)
  · rw [← badTo_stay h0 (show j + 1 ≤ n by omega), h]
  · exfalso
    have key : ∀ m, j + 1 ≤ m → badTo C x m = -1 ∨ (j : Int) + 1 ≤ badTo C x m := by
      intro m
      induction m with
      | zero => intro hm; omega
      | succ m ih =>
        intro hm
        by_cases e : j + 1 = m + 1
        · have := (badTo_bound C x (j + 1)).1
          rw [← e]
          left; omega
        · have := ih (by omega)
          simp only [badTo]
          split
          · omega
          · split
            · exact .inl rfl
            · right; omega
    have := key n (by omega)
    omega
/-- What there is to know of the chain cut before its contradiction, and behind it. -/
theorem contra {C : Chain} {k : Nat} (hk : k < C.sights.length) (hall : ∀ x ∈ pastsL C.deeds, 0 ≤ badV C x ∧ badV C x ≤ k) (hx : ∃ x ∈ pastsL C.deeds, badV C x = k) :
    fewV (cutS C k) = 0 ∧ fewV (cutS C (k + 1)) = 1 ∧ firstV (cutS C (k + 1)) = k ∧ firstE (cutS C (k + 1)) = 0 ∧ firstE (cutS C k) = 3 := by
  obtain ⟨x, hx, he⟩ := hx
  have hpd : ∀ j, pastsL (cutS C j).deeds = pastsL C.deeds := fun _ => rfl
  have hb0 : badTo C x k < 0 := bad_before (n := C.sights.length) he (by omega)
  have hg : someGood (cutS C k) = true := some_iff.2 ⟨x, hx, by
    show badTo (cutS C k) x (cutS C k).sights.length < 0
    rw [cutS_len (by omega), cutS_badTo (Nat.le_refl _)]; exact hb0⟩
  have hbv : ∀ y ∈ pastsL C.deeds, badV (cutS C (k + 1)) y = badV C y := fun y hy => by
    obtain ⟨h1, h2⟩ := hall y hy
    obtain ⟨j, hj⟩ := Int.eq_ofNat_of_zero_le h1
    have hj' : badTo C y C.sights.length = j := hj
    show badTo (cutS C (k + 1)) y (cutS C (k + 1)).sights.length = badV C y
    rw [cutS_len (by omega), cutS_badTo (Nat.le_refl _), hj]
    have := bad_at hj' (by omega)
    have h0 : 0 ≤ badTo C y (j + 1) := by omega
    rw [badTo_stay h0 (show j + 1 ≤ k + 1 by omega)]
    exact this
  have hg2 : someGood (cutS C (k + 1)) = false := by
    cases h : someGood (cutS C (k + 1))
    · rfl
    · obtain ⟨y, hy, hlt⟩ := some_iff.1 h
      rw [hbv y hy] at hlt
      have := (hall y hy).1
      omega
  obtain ⟨k', _, hv, he', hall', y, hy, hye⟩ := first_is hg2
  rw [hbv y hy] at hye
  have h1 := (hall y hy).2
  have h2 := (hall' x hx).2
  rw [hbv x hx] at h2
  have hkk : k' = k := by omega
  refine ⟨few_pos.1 hg, ?_, by rw [hv, hkk], he', by simp [firstE, hg]⟩
  have hw : wrongs (cutS C (k + 1)) x ≤ 1 := by
    show wrongsTo (cutS C (k + 1)) x (cutS C (k + 1)).sights.length ≤ 1
    rw [cutS_len (by omega), cutS_wrongsTo (Nat.le_refl _)]
    simp only [wrongsTo]
    have := bad_iff.1 hb0
    split <;> omega
  have hle := fewV_le (C := cutS C (k + 1)) hx
  have hb := (fewV_bound (cutS C (k + 1))).1
  have hne : fewV (cutS C (k + 1)) ≠ 0 := fun e => by rw [few_pos.2 e] at hg2; cases hg2
  omega

end Go.Proofs.Ytgjikoebneiamaa

namespace Go.Proofs.Ytgjikoebneiamaa

theorem unkTo_zero {ds : List Deed} : ∀ {k : Nat}, (∀ i, i < k → (dnth ds i).from_ ≠ 2) → unkTo ds k = 0
  | 0, _ => rfl
  | k + 1, h => by simp only [unkTo, if_neg (h k (by omega)), unkTo_zero (k := k) (fun i hi => h i (by omega))]
theorem one_past {ds : List Deed} (h : ∀ i, i < ds.length → (dnth ds i).from_ ≠ 2) : pastsL ds = [endsOf ds 0] := by
  rw [pastsL, ← unkTo_len, unkTo_zero h]; rfl
theorem one_truth {C : Chain} (h : ∀ i, i < C.deeds.length → (dnth C.deeds i).from_ ≠ 2) (hne : (truthsP C).length ≠ 0) : truthsP C = [endsOf C.deeds 0] := by
  rw [truthsP, one_past h] at hne ⊢
  simp only [List.filter_cons, List.filter_nil] at hne ⊢
  split at hne
  · rename_i hd; rw [if_pos hd]
  · simp at hne
theorem srt_one (x : Int) : srt [x] = [x] := by
  have h1 : ∀ y, y ∈ srt [x] ↔ y ∈ [x] := fun y => mem_srt
  exact sorted_ext (srt_sorted _) (by simp) h1
theorem ixV_neg {xs : List Int} {x : Int} : ixV xs x < 0 ↔ inB xs x = false := by
  cases h : inB xs x
  · simp [ixV_no (by simpa [inB] using h)]
  · obtain ⟨j, hj, he, hne⟩ := least_ix h
    rw [ixV_yes hj he hne]
    simp
theorem fresh_nth {xs : List Int} (hn : xs.Nodup) {k : Nat} (hk : k < xs.length) : inB (xs.take k) (nth xs k) = false := by
  simp only [inB, decide_eq_false_iff_not]
  intro hm
  obtain ⟨i, hi, he⟩ := mem_iff_nth.1 hm
  rw [List.length_take] at hi
  rw [nth_takeL (by omega)] at he
  rw [nth_lt (by omega), nth_lt hk] at he
  have := (List.getElem_inj hn).1 he
  omega
/-- The cable in the end, where all ends are known. -/
def lastS (C : Chain) : List Int := story C.deeds (endsOf C.deeds 0) C.deeds.length
theorem who_one {C : Chain} (ht : truthsP C = [endsOf C.deeds 0]) (k : Nat) : srt ((truthsP C).map (linkAt C k)) = [nth (lastS C) k] := by rw [ht]; exact srt_one _
theorem where_one {C : Chain} (ht : truthsP C = [endsOf C.deeds 0]) (link : Int) : srt ((truthsP C).map (placeOf C link)) = [ixV (lastS C) link] := by rw [ht]; exact srt_one _

end Go.Proofs.Ytgjikoebneiamaa

namespace Go.Proofs.Ytgjikoebneiamaa
open Go.RowKit Go.Shelf

theorem len_le_of {p q : List Int} (hq : q.Pairwise (· < ·)) (hp : p.Pairwise (· < ·)) (h : ∀ x ∈ q, x ∈ p) : q.length ≤ p.length := by
  have e : q = p.filter (fun x => decide (x ∈ q)) := sorted_ext hq (hp.filter _) (fun x => by simp only [List.mem_filter, decide_eq_true_eq]; exact ⟨fun hx => ⟨h x hx, hx⟩, fun hx => hx.2⟩)
  rw [e]
  exact List.length_filter_le _ _
theorem selTo_len (xs : List Int) (lo : Int) : ∀ n, (selTo xs lo n).length ≤ n
  | 0 => by simp [selTo]
  | n + 1 => by
    have := selTo_len xs lo n
    simp only [selTo, List.length_append]
    split <;> simp <;> omega

set_option maxHeartbeats 800000 in
theorem subset_any (v u : Value) (q p : List Int) (w : World) {B D : Nat} (hv : IntsAt B w v q) (hu : IntsAt D w u p) (hs : ∀ x ∈ q, x ∈ p) (hl : q.length ≤ p.length) :
    Calls Try.prog 57 #[v, u] w fun e w' => e = .returned (.bool true) ∧ w = w' := by
  have hu' := hu
  obtain ⟨a1, cap1, b1, off1, rfl, hm1, HA1, HC1, _⟩ := hv.opened
  obtain ⟨a2, cap2, b2, off2, rfl, hm2, _, _, _⟩ := hu.opened
  have HU := Lib.hid hu'
  have HSU := Lib.hid hs
  clear hv hu hu' hs
  go_enter Try.func57, Try.ntmps57
  go_wp2
  go_loop [5] (fun i => ∃ k : Nat, k ≤ q.length ∧ i = .int .i64 k) (fun i => q.length - (intOf i).toNat)
  case atStart => exact ⟨0, Nat.zero_le _, rfl⟩
  case round =>
    obtain ⟨k, hk, rfl⟩ := hrel
    by_cases hlt : k < q.length
    · obtain ⟨rfl, hb⟩ := HA1.out (by omega)
      have hcell := HC1.out k hlt
      have HQ := Lib.hid (show inB p (nth q k) = true from by simp only [inB, decide_eq_true_eq]; exact HSU.out _ (nth_mem hlt))
      go_wp2_with (go_at_call 50; refine (in_to HQ.out HU.out).mono ?_; rintro e w' ⟨rfl, rfl⟩)
      exact ⟨⟨k + 1, by omega, by go_num⟩, by simp [intOf]; omega⟩
    · have hd : decide ((q.length : Int) ≤ (p.length : Int)) = true := by simp; omega
      go_wp2
      go_ret
      exact ⟨rfl, rfl⟩

set_option maxHeartbeats 800000 in
/-- Slices side by side, none of them longer than forty. -/
theorem small_any (b n : Nat) (arr : Array Value) (t : TypeId) (w : World) (hb : w.heap[b]? = some (.cells arr t)) (hn : n ≤ 8) (ha : ∀ i, i < n → ∃ a l c, arr[i]? = some (.slice a l c) ∧ l ≤ 40) :
    Calls Try.prog 48 #[.slice (some ⟨b, 0, none⟩) n n] w fun e w' => e = .returned (.bool true) ∧ w = w' := by
  have HA := Lib.hid ha
  have HB := Lib.hid hb
  clear ha hb
  go_enter Try.func48, Try.ntmps48
  go_wp2
  go_loop [3] (fun i => ∃ k : Nat, k ≤ n ∧ i = .int .i64 k) (fun i => n - (intOf i).toNat)
  case atStart => exact ⟨0, Nat.zero_le _, rfl⟩
  case round =>
    obtain ⟨k, hk, rfl⟩ := hrel
    by_cases hlt : k < n
    · obtain ⟨a, l, c, h1, h2⟩ := HA.out k hlt
      have hcell : w.cell? ⟨b, k, none⟩ = some (.slice a l c) := cells_of HB.out h1
      clear h1
      go_wp2
      exact ⟨⟨k + 1, by omega, by go_num⟩, by simp [intOf]; omega⟩
    · go_wp2
      go_ret
      exact ⟨rfl, rfl⟩

theorem who_len {C : Chain} (hV : Valid C) (at_ : Int) : (ansV C (placeB C at_) (linkAt C at_.toNat)).length ≤ 40 := by
  unfold ansV
  split
  · rename_i h
    have hw := wB_iff.1 h
    have hr : ∀ x ∈ (truthsP C).map (linkAt C at_.toNat), (0 : Int) ≤ x ∧ x < 0 + (12 : Nat) := by
      intro x hx
      obtain ⟨e, _, rfl⟩ := List.mem_map.1 hx
      have h1 := story_ok (ends := e) hV.deed _ (Nat.le_refl _)
      have h2 := h1.2.2 (linkAt C at_.toNat e) (nth_mem (by omega))
      have h3 := weldsTo_le C.deeds C.deeds.length
      have h4 := hV.nd
      omega
    rw [srt_sel hr]
    exact Nat.le_trans (selTo_len _ _ _) (by omega)
  · simp
theorem where_len {C : Chain} (hV : Valid C) (link : Int) (b : Bool) : (ansV C b (placeOf C link)).length ≤ 40 := by
  unfold ansV
  split
  · have hr : ∀ x ∈ (truthsP C).map (placeOf C link), (-1 : Int) ≤ x ∧ x < -1 + (13 : Nat) := by
      intro x hx
      obtain ⟨e, _, rfl⟩ := List.mem_map.1 hx
      have h1 := ixV_bound (story C.deeds e C.deeds.length) link
      have h2 := (story_ok (ends := e) hV.deed _ (Nat.le_refl _)).1
      have h3 := lenTo_le C.deeds C.deeds.length
      have h4 := hV.nd
      unfold placeOf
      omega
    rw [srt_sel hr]
    exact Nat.le_trans (selTo_len _ _ _) (by omega)
  · simp
theorem ans_sorted (C : Chain) (b : Bool) (f : List Int → Int) : (ansV C b f).Pairwise (· < ·) := by
  unfold ansV
  split
  · exact srt_sorted _
  · simp
theorem truths_iff {C : Chain} : (truthsP C).length ≠ 0 ↔ fewV C ≤ C.wrong := by
  constructor
  · intro h
    obtain ⟨x, hx⟩ := List.exists_mem_of_ne_nil (truthsP C) (fun e => h (by rw [e]; rfl))
    have := mem_truthsP.1 hx
    exact Int.le_trans (fewV_le (mem_pastsL.2 this.1)) this.2
  · intro h e
    obtain ⟨x, hx, he⟩ := fewV_is C
    have : x ∈ truthsP C := mem_truthsP.2 ⟨mem_pastsL.1 hx, by omega⟩
    rw [List.length_eq_zero_iff.1 e] at this
    cases this

end Go.Proofs.Ytgjikoebneiamaa
