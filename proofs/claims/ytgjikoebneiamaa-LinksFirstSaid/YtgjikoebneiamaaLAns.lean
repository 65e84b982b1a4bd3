/-
  Links: a list of answers: each once, ascending; a row of memory that is the call's own.
  Links, walks: the answers to a question in all truths.
-/
import Derived.Test.YtgjikoebneiamaaLMany
import Derived.Sort.OwnSortedInts
import Derived.RangeFuncBox
import Derived.Maps.AppendAt

namespace Go.Proofs.Ytgjikoebneiamaa
open Go.RowKit Go.Shelf

def onceStep (l : List Int) (x : Int) : List Int := if inB l x = true then l else l ++ [x]
/-- Each number once, in the order in which they come first. -/
def onceOf (xs : List Int) : List Int := xs.foldl onceStep []
theorem once_snoc (xs : List Int) (x : Int) : onceOf (xs ++ [x]) = onceStep (onceOf xs) x := by simp [onceOf]
theorem mem_onceStep {l : List Int} {x y : Int} : y ∈ onceStep l x ↔ y ∈ l ∨ y = x := by
  unfold onceStep
  by_cases h : inB l x = true
  · rw [if_pos h]
    simp only [inB, decide_eq_true_eq] at h
    exact ⟨.inl, fun h' => h'.elim id (fun e => e ▸ h)⟩
  · rw [if_neg h]; simp
theorem once_acc : ∀ (xs l : List Int), l.Nodup → (xs.foldl onceStep l).Nodup ∧ (xs.foldl onceStep l).length ≤ l.length + xs.length ∧ ∀ y, y ∈ xs.foldl onceStep l ↔ y ∈ l ∨ y ∈ xs
  | [], l, h => ⟨h, by simp, by simp⟩
  | x :: xs, l, h => by
    have hn : (onceStep l x).Nodup := by
      unfold onceStep
      by_cases hx : inB l x = true
      · rw [if_pos hx]; exact h
      · rw [if_neg hx]
        simp only [inB, decide_eq_true_eq] at hx
        rw [List.nodup_append]
        refine ⟨h, by simp, fun a ha b hb => ?_⟩
        simp only [List.mem_singleton] at hb
        subst hb
        rintro rfl
        exact hx ha
    have hl : (onceStep l x).length ≤ l.length + 1 := by unfold onceStep; split <;> simp
    obtain ⟨h1, h2, h3⟩ := once_acc xs (onceStep l x) hn
    refine ⟨h1, by simp only [List.foldl_cons, List.length_cons]; omega, fun y => ?_⟩
    rw [List.foldl_cons, h3, mem_onceStep, List.mem_cons]
    exact ⟨fun h => h.elim (fun h => h.elim .inl (fun e => .inr (.inl e))) (fun h => .inr (.inr h)), fun h => h.elim (fun h => .inl (.inl h)) (fun h => h.elim (fun e => .inl (.inr e)) .inr)⟩
theorem once_nodup (xs : List Int) : (onceOf xs).Nodup := (once_acc xs [] (by simp)).1
theorem once_len (xs : List Int) : (onceOf xs).length ≤ xs.length := by have := (once_acc xs [] (by simp)).2.1; simpa [onceOf] using this
theorem mem_once {xs : List Int} {y : Int} : y ∈ onceOf xs ↔ y ∈ xs := by have := (once_acc xs [] (by simp)).2.2 y; simpa [onceOf] using this
/-- Each number once, ascending. -/
def srt (xs : List Int) : List Int := (onceOf xs).mergeSort fun x y => decide (x ≤ y)
theorem srt_perm (xs : List Int) : (srt xs).Perm (onceOf xs) := List.mergeSort_perm _ _
theorem mem_srt {xs : List Int} {y : Int} : y ∈ srt xs ↔ y ∈ xs := by rw [(srt_perm xs).mem_iff, mem_once]
theorem srt_len (xs : List Int) : (srt xs).length = (onceOf xs).length := (srt_perm xs).length_eq
theorem srt_sorted (xs : List Int) : (srt xs).Pairwise (· < ·) := by
  have h1 : (srt xs).Pairwise (fun a b => decide (a ≤ b) = true) := List.pairwise_mergeSort (fun a b c h1 h2 => by simp at *; omega) (fun a b => by simp; omega) _
  have h2 : (srt xs).Nodup := (srt_perm xs).nodup_iff.2 (once_nodup xs)
  exact (List.pairwise_and_iff.2 ⟨h1, h2⟩).imp (fun {a b} h => by have h3 := h.1; have h4 := h.2; simp at h3; omega)
theorem srt_sel {xs : List Int} {lo : Int} {n : Nat} (hr : ∀ x ∈ xs, lo ≤ x ∧ x < lo + n) : srt xs = selTo xs lo n := sel_of_sorted (srt_sorted xs) (fun _ => mem_srt) hr

theorem Try_infoInt : (Try.prog.info? 3).map (fun i => (i.zero, i.size, i.bytes)) = some (some (.int .i64 0), 1, 8) := by kernel_rfl
theorem own_form {w : World} {base : Nat} {e : TypeId} {size : Nat} {v : Value} {n : Nat} {xs : List Value} (h : w.ownsRow base e size v n xs) : ∃ A cap, v = .slice A n cap ∧ n ≤ cap := by
  rcases h.2 with ⟨rfl, rfl⟩ | ⟨g, cap, cur, rfl, _, _, hc, _⟩
  · exact ⟨none, 0, rfl, Nat.le_refl _⟩
  · exact ⟨_, cap, rfl, hc⟩
theorem own_keptBut {own : Nat → Prop} {w W : World} {base : Nat} {e : TypeId} {size : Nat} {v : Value} {n : Nat} {xs : List Value} (h : w.ownsRow base e size v n xs) (hk : KeptBut own w W) (ho : ∀ k, own k → k < base) : W.ownsRow base e size v n xs := by
  refine ⟨h.1, ?_⟩
  rcases h.2 with hn | ⟨g, cap, cur, rfl, hb, hgg, rest⟩
  · exact .inl hn
  · exact .inr ⟨g, cap, cur, rfl, hb, (hk.block g (heap_lt hgg) (fun h => by have := ho g h; omega)).trans hgg, rest⟩
theorem ints_of_own {w : World} {base : Nat} {v : Value} {xs : List Int} (h : w.ownsRow base 3 1 v xs.length (xs.map (Value.int .i64))) (hw : ∀ x ∈ xs, I64 x) : IntsAt w.heap.size w v xs := by
  obtain ⟨_, ⟨rfl, h0⟩ | ⟨g, cap, cur, rfl, _, hg, hn, hm, hs, ht⟩⟩ := h
  · exact ⟨none, 0, 0, 0, by rw [h0], by omega, by unfold maxLen; omega, fun h => by omega, fun i hi => by omega, hw⟩
  · refine ⟨_, cap, g, 0, rfl, hn, hm, fun _ => ⟨rfl, (Array.getElem?_eq_some_iff.1 hg).1⟩, fun i hi => ?_, hw⟩
    have h1 : cur.toList[i]? = some (.int .i64 (nth xs i)) := by
      have : (cur.toList.take (xs.length * 1))[i]? = some (.int .i64 (nth xs i)) := by rw [ht]; simp [hi, nth_lt hi]
      rwa [List.getElem?_take_of_lt (by omega)] at this
    simp only [Nat.zero_add, World.cell?, hg, Option.isSome_none, Bool.false_eq_true, if_false]
    rwa [Array.getElem?_toList] at h1
/-- A row of numbers that is the call's own, sorted by the library. -/
theorem sort_own {w : World} {base : Nat} {A : Option Addr} {cap : Nat} {xs : List Int} (h : w.ownsRow base 3 1 (.slice A xs.length cap) xs.length (xs.map (Value.int .i64))) (hlen : xs.length ≤ 4096) :
    Calls Try.prog 116 #[.slice A xs.length cap] w fun e w' => e = .returned (.tuple #[]) ∧ w'.ownsRow base 3 1 (.slice A xs.length cap) xs.length ((xs.mergeSort fun x y => decide (x ≤ y)).map (Value.int .i64)) ∧ KeptBut (fun k => base ≤ k) w w' := by
  have hl : (xs.mergeSort fun x y => decide (x ≤ y)).length = xs.length := (List.mergeSort_perm _ _).length_eq
  rcases h.2 with ⟨hv, h0⟩ | ⟨g, cap', cur, hv, hb, hg, hn, hm, hs, ht⟩
  · have : xs = [] := List.length_eq_zero_iff.1 h0
    subst this
    refine (Try.slices_Sort_int_none A cap w).mono ?_
    rintro e w' ⟨rfl, rfl⟩
    exact ⟨rfl, by simpa using h, KeptBut.refl _ _⟩
  · injection hv with h1 h2 h3
    subst h1; subst h3
    refine (Try.slices_Sort_int g 0 cap xs w (holds_of_blockI hg (by rw [Nat.mul_one] at ht; exact ht)) (heap_lt hg) (by omega)).mono ?_
    rintro e w' ⟨rfl, n, os, rfl⟩
    have hgr := grownBy_sortedI (w := w) (g := g) (n := n) (os := os) (xs.mergeSort fun x y => decide (x ≤ y)).toArray
    exact ⟨rfl, ownsRow_sortedI hl hb hg hn hm hs, ⟨hgr.os, hgr.tape, hgr.output, hgr.size, fun k hk ho => hgr.block k hk (fun e => ho (by injection e with e; omega))⟩⟩

end Go.Proofs.Ytgjikoebneiamaa

namespace Go.Proofs.Ytgjikoebneiamaa
open Go.RowKit Go.Shelf

attribute [local go_sem] Oper.semAt_some

/-- The list of answers, in its box. -/
def ListBox (bx base : Nat) (xs : List Int) (W : World) : Prop :=
  ∃ A cap, W.heap[bx]? = some (.cells #[.slice A xs.length cap] 33) ∧ W.ownsRow base 3 1 (.slice A xs.length cap) xs.length (xs.map (Value.int .i64))
theorem ListBox.kept {own : Nat → Prop} {bx base : Nat} {xs : List Int} {A B : World} (h : ListBox bx base xs A) (hk : KeptBut own A B) (hb : ¬ own bx) (ho : ∀ k, own k → k < base) : ListBox bx base xs B := by
  obtain ⟨a, cap, h1, h2⟩ := h
  exact ⟨a, cap, (hk.block _ (heap_lt h1) hb).trans h1, own_keptBut h2 hk ho⟩

set_option maxRecDepth 100000 in
set_option maxHeartbeats 4000000 in
theorem answers_in (F : Fence) (hF : Hid (F = Fence.wide)) (hd : F.depth = none) (hro : F.round = none) (hfn : ∀ f, F.fn f) (n : Nat) (hn : 9 ≤ n) (dv sv mv : Value) (C : Chain) (hV : Valid C) (g : FuncId) (lb : Array Value) (f : List Int → Int) (w : World)
    (hx : BookAt w.heap.size w (.agg #[dv, sv, .int .i64 C.wrong, mv]) C) (hf : ∀ x ∈ truthsP C, I64 (f x))
    (eg : ∀ args w, (callFunc g args).run Try.prog w = .ok (.enter g args) w)
    (hask : ∀ x ∈ truthsP C, ∀ Bp Bm W, Below w.heap.size w W → PastTo C.deeds.length Bp Bm (story C.deeds x) C.deeds.length W →
      Calls Try.prog g (#[pastV C.deeds.length Bp] ++ lb) W fun e w' => e = .returned (.int .i64 (f x)) ∧ Below W.heap.size W w') :
    CallsIn F n Try.prog 78 #[.agg #[dv, sv, .int .i64 C.wrong, mv], .func (.func g) #[] lb] w fun e w' => ∃ v, e = .returned (.tuple #[v, .int .i64 (noneE (truthsP C).length)]) ∧ (IntsAt w'.heap.size w' v (srt ((truthsP C).map f)) ∧ ∀ j, v.ownBlock = some j → w.heap.size ≤ j) ∧ Below w.heap.size w w' := by
  have HX := Lib.hid hx
  have HV := Lib.hid hV
  have HLT := Lib.hid (truthsP_len hV)
  have HFI := Lib.hid hf
  have HASK := Lib.hid hask
  have HEG := Lib.hid eg
  clear hx hV hf hask eg
  have hmo : Try.prog.follows .mixedOrders = true := by kernel_rfl
  refine callsIn_of_wp_marks Try.func78 rfl (hfn _) ?_ hro
  simp only [Try.ntmps78, List.size_toArray, List.length_cons, List.length_nil, Nat.reduceAdd, Nat.reduceSub, Array.replicate_succ, Array.replicate_zero, List.push_toArray, List.append_toArray, List.nil_append, List.cons_append]
  gi_wp2_with fail
  obtain ⟨w2, hw2⟩ : ∃ w2, w2 = ((w.alloc (.cells #[dv, sv, .int .i64 C.wrong, mv] 84)).alloc (.cells #[.func (.func g) #[] lb] 90)).alloc (.cells #[.slice none 0 0] 33) := ⟨_, rfl⟩
  rw [← hw2]
  have hs2 : w2.heap.size = w.heap.size + 1 + 1 + 1 := by rw [hw2]; simp
  have hb2 : Below w.heap.size w w2 := by rw [hw2]; exact (((Below.refl _ w).alloc (Nat.le_refl _) _).alloc (by simp) _).alloc (by simp; omega) _
  have hbx0 : w2.heap[w.heap.size + 1]? = some (.cells #[.func (.func g) #[] lb] 90) := by
    rw [hw2, Below.heap_alloc _ _ _ (by simp)]; exact heap_new1 _ _ _
  have hbx1 : w2.heap[w.heap.size + 1 + 1]? = some (.cells #[.slice none 0 0] 33) := by
    have := heap_new ((w.alloc (.cells #[dv, sv, .int .i64 C.wrong, mv] 84)).alloc (.cells #[.func (.func g) #[] lb] 90)) (.cells #[.slice none 0 0] 33)
    rw [hw2]; simpa using this
  clear hw2
  obtain ⟨base, hbase⟩ : ∃ base, base = w2.heap.size + 2 + (C.deeds.length + 7) := ⟨_, rfl⟩
  have HBASE := Lib.hid hbase
  have HS2 := Lib.hid hs2
  have HB2 := Lib.hid hb2
  have HBX0 := Lib.hid hbx0
  have hlb : ListBox (w.heap.size + 1 + 1) base (onceOf (([] : List (List Int)).map f)) w2 := ⟨none, 0, hbx1, World.ownsRow_nil _ _ _ _⟩
  have hown1 : OwnAt w2.heap.size [2, 3, C.deeds.length + 5, C.deeds.length + 6] (fun (pre : List (List Int)) W => ListBox (w.heap.size + 1 + 1) base (onceOf (pre.map f)) W) := fun s A A' h hk => h.kept hk
    (by rintro (h | h | ⟨c, hc, h⟩) <;> omega) (fun k hk => by
      simp only [List.mem_cons, List.not_mem_nil, or_false] at hk
      rcases hk with h | h | ⟨c, rfl | rfl | rfl | rfl, h⟩ <;> omega)
  have hbkx := HX.out.below hb2
  refine wpIn_truths F hF hd hro hfn (by omega) _ _ _ C rfl HV.out w.heap.size hbkx (by omega) rfl (fun k => k = w.heap.size + 1 + 1 ∨ base ≤ k) (fun k hk => by omega)
    (fun (pre : List (List Int)) W => ListBox (w.heap.size + 1 + 1) base (onceOf (pre.map f)) W) (fun _ _ _ => False) hown1 (fun _ _ _ _ h _ => h) hlb
    (fun tm _ x => { tmps := (tm.setIfInBounds 11 (pastV C.deeds.length (w2.heap.size + 2 + C.deeds.length + 5))).setIfInBounds 7 (pastV C.deeds.length (w2.heap.size + 2 + C.deeds.length + 5)), defers := [] }) (fun V _ => V) (fun W x => Below.refl _ _) ?assign ?body ?done ?stop
  case assign =>
    intro l x W K hK
    generalize pastV C.deeds.length (w2.heap.size + 2 + C.deeds.length + 5) = pv at hK ⊢
    gi_wp2
    exact hK
  case body =>
    intro l pre x V U hpre hI hkb hpast hV2 hkl
    have hmem : x ∈ truthsP C := hpre.subset (by simp)
    have hlenx : (onceOf (pre.map f)).length ≤ 4096 := by
      have h1 := hpre.length_le; have h2 := HLT.out; have h3 := once_len (pre.map f)
      simp only [List.length_append, List.length_cons, List.length_nil, List.length_map] at h1 h3; omega
    have hfx := HFI.out x hmem
    have hmemL : ∀ y ∈ onceOf (pre.map f), I64 y := fun y hy => by
      obtain ⟨z, hz, rfl⟩ := List.mem_map.1 (mem_once.1 hy)
      exact HFI.out z (hpre.subset (List.mem_append_left _ hz))
    have hbU : Below w.heap.size w U := HB2.out.trans (hkb.below (by have := HS2.out; omega) (fun k hk => by have := HS2.out; have := HBASE.out; omega))
    have hcall := inF (n := n - 1 - 1 - 1) hF (HASK.out x hmem _ _ U hbU hpast)
    have hUb : base ≤ U.heap.size := by have := hpast.ltm; have := HBASE.out; omega
    have HCALL := Lib.hid (CallsIn.inRound l hcall)
    have hbox := (hkb.block (w.heap.size + 1) (by have := HS2.out; omega) (by have := HS2.out; have := HBASE.out; omega)).trans HBX0.out
    obtain ⟨d1, d2⟩ := cell1_of hbox
    have hon := once_snoc (pre.map f) (f x)
    have HON := Lib.hid (show onceOf ((pre ++ [x]).map f) = onceStep (onceOf (pre.map f)) (f x) by rw [List.map_append]; exact hon)
    have HML := Lib.hid hmemL
    have HI := Lib.hid hI
    clear hcall hpast hkl hkb hbU hpre hI hmem hmemL hon hbx1 hbx0 hb2 hown1 hbkx hlb hbase hs2 hbox HASK
    obtain ⟨pv, hpv⟩ : ∃ pv : Value, pastV C.deeds.length (w2.heap.size + 2 + C.deeds.length + 5) = pv := ⟨_, rfl⟩
    rw [hpv] at HCALL ⊢
    clear hpv
    generalize onceOf (pre.map f) = L at hlenx HON HML HI
    generalize f x = y at hfx HCALL HON
    have eg := HEG.out
    gi_wp2_with fail
    refine HCALL.out.mono ?_
    rintro e U1 ⟨rfl, hb1⟩
    have hb1s := hb1.size
    obtain ⟨A, cap, e1, hown⟩ := HI.out.kept (KeptBut.of_below (own := fun _ => False) hb1) (fun h => h) (fun k h => h.elim)
    obtain ⟨q1, q2⟩ := cell1_of e1
    have HINTS := Lib.hid (ints_of_own hown HML.out)
    have HOWN := Lib.hid hown
    have HE1 := Lib.hid e1
    have HB1 := Lib.hid hb1
    have hbb : w.heap.size + 1 + 1 < base := by have := HS2.out; have := HBASE.out; omega
    clear HCALL HI hown e1 hb1 eg d1 d2
    cases hc : inB L y
    · have HC := Lib.hid hc
      clear hc
      obtain ⟨i0, hi, hz0, hz1, hz2⟩ := info_parts Try_infoInt
      gi_wp2_with (first
        | (gi_at_call 115; refine (CallsIn.inRound l (inF hF (contains_to HC.out HINTS.out))).mono ?_; rintro e w' ⟨rfl, rfl⟩)
        | (gi_at_builtin; refine wpListIn_append_own _ rfl _ _ 33 rfl base 3 i0 (.int .i64 0) 1 8 Try.underlying33 hi hz0 hz1 hz2 rfl (by decide) _ _ _ rfl (HOWN.out.alloc _) ⟨U1.heap.size, 0, none⟩ 1 1 [.int .i64 y] rfl rfl (cell_one_new _ _ _) (by simp [Value.oneCell']) (by unfold maxLen; omega) (by omega) (by simp; omega) ?_
           intro v' w3 hown' hgrow _
           obtain ⟨g', cap', rfl⟩ := ownsRow_succ hown'
           have HK3 := Lib.hid (show KeptBut (fun k => base ≤ k) U1 w3 from ⟨hgrow.os, hgrow.tape, hgrow.output, Nat.le_trans (by simp) hgrow.size, fun k hk ho => (hgrow.block k (by simp; omega) (fun h => ho ((HOWN.out.lt k h.symm).1))).trans (Below.heap_alloc _ _ _ hk)⟩)
           have HOWN3 := Lib.hid hown'
           have HE3 := Lib.hid ((HK3.out.block _ (heap_lt HE1.out) (by omega)).trans HE1.out)
           obtain ⟨q3, q4⟩ := cell1_of HE3.out
           clear hown' hgrow))
      refine ⟨(KeptBut.of_below HB1.out).trans ((HK3.out.mono (fun _ _ h => .inr h)).trans (KeptBut.setCell _ _ _ (.inl rfl))), ?_⟩
      show ListBox _ _ (onceOf ((pre ++ [x]).map f)) _
      rw [HON.out, onceStep, if_neg (by rw [HC.out]; simp)]
      refine ⟨some ⟨g', 0, none⟩, cap', ?_, ?_⟩
      · rw [List.length_append]; exact set_box _ HE3.out
      · rw [List.length_append, List.map_append]
        exact own_keptBut (own := fun k => k = w.heap.size + 1 + 1) HOWN3.out (KeptBut.setCell _ _ _ rfl) (fun k h => by omega)
    · have HC := Lib.hid hc
      clear hc
      gi_wp2_with (gi_at_call 115; refine (CallsIn.inRound l (inF hF (contains_to HC.out HINTS.out))).mono ?_; rintro e w' ⟨rfl, rfl⟩)
      refine ⟨KeptBut.of_below HB1.out, ?_⟩
      show ListBox _ _ (onceOf ((pre ++ [x]).map f)) _
      rw [HON.out, onceStep, if_pos HC.out]
      exact ⟨A, cap, HE1.out, HOWN.out⟩
  case done =>
    rintro _ W rfl hkb hI hK
    have hkw : KeptBut (fun k => w.heap.size ≤ k) w W := (KeptBut.of_below HB2.out).trans (hkb.mono (fun k _ h => by have := HS2.out; have := HBASE.out; omega))
    have HKW := Lib.hid hkw
    have hDW : w2.heap.size < W.heap.size := heap_lt hK
    have hDb : w2.heap.size < base := by have := HBASE.out; omega
    obtain ⟨A, cap, e1, hown⟩ := hI
    have hle := HLT.out
    have hol := once_len ((truthsP C).map f)
    rw [List.length_map] at hol
    obtain ⟨q1, q2⟩ := cell1_of e1
    have HSORT := Lib.hid (sort_own hown (by omega))
    have hz : (onceOf ((truthsP C).map f)).length = 0 ↔ (truthsP C).length = 0 := by
      rw [List.length_eq_zero_iff, List.length_eq_zero_iff]
      constructor
      · intro h
        cases ht : truthsP C with
        | nil => rfl
        | cons a l =>
          have : f a ∈ onceOf ((truthsP C).map f) := mem_once.2 (List.mem_map_of_mem (by rw [ht]; simp))
          rw [h] at this; cases this
      · intro h; rw [h]; rfl
    have HZ := Lib.hid hz
    have HE1 := Lib.hid e1
    have HSL := Lib.hid (srt_len ((truthsP C).map f))
    have HM := Lib.hid (show ∀ y ∈ srt ((truthsP C).map f), I64 y from fun y hy => by
      obtain ⟨z, hz, rfl⟩ := List.mem_map.1 (mem_srt.1 hy)
      exact HFI.out z hz)
    have HDEF : Hid ((onceOf ((truthsP C).map f)).mergeSort (fun x y => decide (x ≤ y)) = srt ((truthsP C).map f)) := rfl
    clear hkw hkb hown e1 hz hbx1 hbx0 hb2 hown1 hbkx hlb hbase hs2
    rw [HDEF.out] at HSORT
    obtain ⟨R, hR⟩ : ∃ R, srt ((truthsP C).map f) = R := ⟨_, rfl⟩
    rw [hR] at HSORT HSL HM
    have HR := Lib.hid hR
    generalize onceOf ((truthsP C).map f) = L at hol q1 q2 HSORT HSL HZ HE1
    clear hR HDEF
    obtain ⟨m, hm⟩ : ∃ m, L.length = m := ⟨_, rfl⟩
    rw [hm] at q1 hol HSORT HSL HZ HE1
    clear hm
    by_cases h0 : m = 0
    · subst h0
      have hn0 := HZ.out.1 rfl
      have HN := Lib.hid (show noneE (truthsP C).length = 3 by rw [hn0]; rfl)
      clear hn0 hle
      gi_wp2_with fail
      refine ⟨by simp, .inl ⟨_, _, rfl, run_takeDeferred hK, ?_⟩⟩
      have hR0 : R = [] := List.length_eq_zero_iff.1 HSL.out
      refine ⟨_, results_tmp2 rfl _ _ _, _, by rw [HN.out]; rfl, ?_, (HKW.out.below (Nat.le_refl _) (fun _ h => h)).trans (putObj_below _ _ (by have := HS2.out; omega))⟩
      rw [HR.out, hR0]
      exact ⟨⟨none, 0, 0, 0, rfl, by simp, by unfold maxLen; omega, fun h => by simp at h, fun i hi => by simp at hi, fun x hx => by simp at hx⟩, fun j hj => by simp [Value.ownBlock] at hj⟩
    · have hn0 : ¬ (truthsP C).length = 0 := fun h => h0 (HZ.out.2 h)
      have HN := Lib.hid (noneE_pos hn0)
      have hz1 : ((m : Int) == 0) = false := by simp; omega
      clear hn0 hle
      gi_wp2_with fail
      refine (inF hF HSORT.out).mono ?_
      rintro e w' ⟨rfl, ho, hk⟩
      have HO := Lib.hid ho
      have HK := Lib.hid hk
      have hbb : w.heap.size + 1 + 1 < base := by have := HS2.out; have := HBASE.out; omega
      have e3 := (hk.block _ (heap_lt HE1.out) (by omega)).trans HE1.out
      have hK3 := (hk.block w2.heap.size hDW (by omega)).trans hK
      obtain ⟨q3, q4⟩ := cell1_of e3
      have HK3 := Lib.hid hK3
      clear ho hk e3 hK3 hK q1 q2 HSORT
      gi_wp2_with fail
      refine ⟨by simp, .inl ⟨_, _, rfl, run_takeDeferred HK3.out, ?_⟩⟩
      have hD2 : w.heap.size ≤ w2.heap.size := by have := HS2.out; omega
      refine ⟨_, results_tmp2 rfl _ _ _, _, by rw [HN.out]; rfl, ?_, ((HKW.out.trans (HK.out.mono (fun k _ h => by have := HS2.out; have := HBASE.out; omega))).below (Nat.le_refl _) (fun _ h => h)).trans (putObj_below _ _ hD2)⟩
      rw [HR.out]
      refine ⟨ints_of_own (base := base) ?_ HM.out, fun j hj => by
        have h1 := (HO.out.lt j hj).1
        have h2 := HS2.out
        have h3 := HBASE.out
        omega⟩
      rw [HSL.out]
      exact own_keptBut (own := fun k => k = w2.heap.size) HO.out (KeptBut.putObj _ _ _ rfl) (fun k h => by omega)
  case stop =>
    rintro D c pre W _ _ _ h _
    exact h.elim

theorem answers_own (dv sv mv : Value) (C : Chain) (hV : Valid C) (g : FuncId) (lb : Array Value) (f : List Int → Int) (w : World)
    (hx : BookAt w.heap.size w (.agg #[dv, sv, .int .i64 C.wrong, mv]) C) (hf : ∀ x ∈ truthsP C, I64 (f x))
    (eg : ∀ args w, (callFunc g args).run Try.prog w = .ok (.enter g args) w)
    (hask : ∀ x ∈ truthsP C, ∀ Bp Bm W, Below w.heap.size w W → PastTo C.deeds.length Bp Bm (story C.deeds x) C.deeds.length W →
      Calls Try.prog g (#[pastV C.deeds.length Bp] ++ lb) W fun e w' => e = .returned (.int .i64 (f x)) ∧ Below W.heap.size W w') :
    Calls Try.prog 78 #[.agg #[dv, sv, .int .i64 C.wrong, mv], .func (.func g) #[] lb] w fun e w' => ∃ v, e = .returned (.tuple #[v, .int .i64 (noneE (truthsP C).length)]) ∧ (IntsAt w'.heap.size w' v (srt ((truthsP C).map f)) ∧ ∀ j, v.ownBlock = some j → w.heap.size ≤ j) ∧ Below w.heap.size w w' :=
  wide_calls (answers_in Fence.wide rfl rfl rfl (fun _ => trivial) 9 (by omega) dv sv mv C hV g lb f w hx hf eg hask)
theorem answers_any (dv sv mv : Value) (C : Chain) (hV : Valid C) (g : FuncId) (lb : Array Value) (f : List Int → Int) (w : World)
    (hx : BookAt w.heap.size w (.agg #[dv, sv, .int .i64 C.wrong, mv]) C) (hf : ∀ x ∈ truthsP C, I64 (f x))
    (eg : ∀ args w, (callFunc g args).run Try.prog w = .ok (.enter g args) w)
    (hask : ∀ x ∈ truthsP C, ∀ Bp Bm W, Below w.heap.size w W → PastTo C.deeds.length Bp Bm (story C.deeds x) C.deeds.length W →
      Calls Try.prog g (#[pastV C.deeds.length Bp] ++ lb) W fun e w' => e = .returned (.int .i64 (f x)) ∧ Below W.heap.size W w') :
    Calls Try.prog 78 #[.agg #[dv, sv, .int .i64 C.wrong, mv], .func (.func g) #[] lb] w fun e w' => ∃ v, e = .returned (.tuple #[v, .int .i64 (noneE (truthsP C).length)]) ∧ IntsAt w'.heap.size w' v (srt ((truthsP C).map f)) ∧ Below w.heap.size w w' :=
  (answers_own dv sv mv C hV g lb f w hx hf eg hask).mono fun _ _ ⟨v, h1, h2, h3⟩ => ⟨v, h1, h2.1, h3⟩

end Go.Proofs.Ytgjikoebneiamaa
